/-
  A row of nodes as an argument: its texts are, together, no longer than its reading is of bulk.
-/
import Derived.Test.YtdfgmdddnehocabGreatDoorXMrg
import Derived.Test.YtdfgmdddnehocabGreatDoorTParts
import Derived.Test.YtdfgmdddnehocabGreatDoorTGo3
import Derived.Test.YtdfgmdddnehocabGreatDoorTKids
import Derived.Test.YtdfgmdddnehocabGreatDoorTAwake
import Derived.Test.YtdfgmdddnehocabGreatDoorAbApartN
import Derived.Test.YtdfgmdddnehocabGreatDoorAbApartI
import Derived.Test.YtdfgmdddnehocabGreatDoorRows
import Derived.Lib.LaidTab
import Derived.Lib.LaidU8T
import Derived.LaidMore
import Derived.Lay
import Derived.ProofKit
import Derived.HandedShaped
import Derived.Stop.Joined
import Derived.Stop.LaidErr
import Derived.Deep.Slices
import Derived.SizedLaws
namespace Go.Proofs.YtdfgmdddnehocabGreatDoor
open Go.RowKit Go.Maps Go.Lib

theorem fr_ab {L : List Nat} {a b : World} (h : Ab.Fr L a b) : Fr L a b := ⟨h.os, h.tape, h.output, h.size, h.block⟩
/-- A row: where it lies, its length, its room. -/
abbrev Spot := Option Addr × Nat × Nat
def Spot.val (s : Spot) : Value := .slice s.1 s.2.1 s.2.2
def blocksOf (vs : List Spot) : List Nat := vs.flatMap fun s => s.val.ownBlock.toList
theorem blocks_mem {vs : List Spot} {g : Nat} : g ∈ blocksOf vs ↔ ∃ s ∈ vs, s.val.ownBlock = some g := by
  simp [blocksOf]
/-- Rows of nodes that lie apart, in a new table. -/
theorem listsN_of {w : World} (vs : List Spot) (tab : Array Value) (htab : tab = (vs.map Spot.val).toArray) (hK : vs.length ≤ 20) (hn : ∀ s ∈ vs, s.2.1 ≤ 1000) (hown : ∀ s ∈ vs, ∃ xs : List Value, xs.length = s.2.1 * 4 ∧ w.ownsRow 0 62 4 s.val s.2.1 xs)
    (hap : vs.Pairwise fun s t => ∀ g, s.val.ownBlock = some g → t.val.ownBlock ≠ some g) :
    Ab.ListsN (w.alloc (.cells tab 22)) (blocksOf vs) vs.length w.heap.size (fun j => (vs.getD j (none, 0, 0)).1) (fun j => (vs.getD j (none, 0, 0)).2.1) (fun j => (vs.getD j (none, 0, 0)).2.2) := by
  subst htab
  have hget : ∀ j, (hj : j < vs.length) → vs.getD j (none, 0, 0) = vs[j] := fun j hj => by simp [hj]
  have hlt : ∀ g ∈ blocksOf vs, g < w.heap.size := by
    intro g hg
    obtain ⟨s, hs, hb⟩ := blocks_mem.1 hg
    obtain ⟨xs, _, ho⟩ := hown s hs
    rcases ho.2 with ⟨e, _⟩ | ⟨g', _, cur, e, _, hh, _⟩
    · rw [e] at hb; cases hb
    · rw [e] at hb
      have : g' = g := by simpa [Value.ownBlock] using hb
      subst this
      exact (Array.getElem?_eq_some_iff.1 hh).1
  refine ⟨hK, ?_, ?_, ?_, ?_, ?_, ?_⟩
  · intro j hj
    simp only [hget j hj]
    exact hn _ (List.getElem_mem hj)
  · intro j hj
    simp only [hget j hj]
    rw [cell_of_row _ _ _ _ _ _ (heap_alloc_new w _)]
    simp [hj, Spot.val]
  · intro j hj
    simp only [hget j hj]
    obtain ⟨xs, h1, h2⟩ := hown _ (List.getElem_mem hj)
    exact ⟨xs, h1, own_type h2 ((Fr.refl [] w).alloc _) (by simp)⟩
  · intro i j hi hj hij g
    simp only [hget i hi, hget j hj]
    rcases Nat.lt_or_gt_of_ne hij with k | k
    · exact (List.pairwise_iff_getElem.1 hap i j hi hj k) g
    · exact fun e1 e2 => (List.pairwise_iff_getElem.1 hap j i hj hi k) g e2 e1
  · intro j hj g
    simp only [hget j hj]
    exact fun e => blocks_mem.2 ⟨_, List.getElem_mem hj, e⟩
  · intro h
    have := hlt _ h
    omega
/-- Rows of numbers that lie apart, in a new table. -/
theorem listsI_of {w : World} (vs : List Spot) (tab : Array Value) (htab : tab = (vs.map Spot.val).toArray) (hK : vs.length ≤ 250) (hn : ∀ s ∈ vs, s.2.1 ≤ 100000) (hown : ∀ s ∈ vs, ∃ xs : List Value, xs.length = s.2.1 ∧ w.ownsRow 0 3 1 s.val s.2.1 xs)
    (hap : vs.Pairwise fun s t => ∀ g, s.val.ownBlock = some g → t.val.ownBlock ≠ some g) :
    Ab.ListsI (w.alloc (.cells tab 29)) (blocksOf vs) vs.length w.heap.size (fun j => (vs.getD j (none, 0, 0)).1) (fun j => (vs.getD j (none, 0, 0)).2.1) (fun j => (vs.getD j (none, 0, 0)).2.2) := by
  subst htab
  have hget : ∀ j, (hj : j < vs.length) → vs.getD j (none, 0, 0) = vs[j] := fun j hj => by simp [hj]
  have hlt : ∀ g ∈ blocksOf vs, g < w.heap.size := by
    intro g hg
    obtain ⟨s, hs, hb⟩ := blocks_mem.1 hg
    obtain ⟨xs, _, ho⟩ := hown s hs
    rcases ho.2 with ⟨e, _⟩ | ⟨g', _, cur, e, _, hh, _⟩
    · rw [e] at hb; cases hb
    · rw [e] at hb
      have : g' = g := by simpa [Value.ownBlock] using hb
      subst this
      exact (Array.getElem?_eq_some_iff.1 hh).1
  refine ⟨hK, ?_, ?_, ?_, ?_, ?_, ?_⟩
  · intro j hj
    simp only [hget j hj]
    exact hn _ (List.getElem_mem hj)
  · intro j hj
    simp only [hget j hj]
    rw [cell_of_row _ _ _ _ _ _ (heap_alloc_new w _)]
    simp [hj, Spot.val]
  · intro j hj
    simp only [hget j hj]
    obtain ⟨xs, h1, h2⟩ := hown _ (List.getElem_mem hj)
    exact ⟨xs, h1, own_type h2 ((Fr.refl [] w).alloc _) (by simp)⟩
  · intro i j hi hj hij g
    simp only [hget i hi, hget j hj]
    rcases Nat.lt_or_gt_of_ne hij with k | k
    · exact (List.pairwise_iff_getElem.1 hap i j hi hj k) g
    · exact fun e1 e2 => (List.pairwise_iff_getElem.1 hap j i hj hi k) g e2 e1
  · intro j hj g
    simp only [hget j hj]
    exact fun e => blocks_mem.2 ⟨_, List.getElem_mem hj, e⟩
  · intro h
    have := hlt _ h
    omega
theorem goL_len {t : List Nd} (k : Int) (ax : Nat) (h : t.length ≤ 300) : (goL t k ax).length ≤ 100000 := by
  unfold goL
  split
  · rename_i hh
    unfold hasB at hh
    rw [Bool.and_eq_true, decide_eq_true_eq] at hh
    obtain ⟨m, rfl⟩ : ∃ m : Nat, k = (m : Int) := ⟨k.toNat, by omega⟩
    rw [Int.toNat_natCast]
    have hm : m < t.length := by omega
    have G := ok_good hh.2
    have hE := end_len t m hm
    have l1 := lst_len hm 1
    have l2 := lst_len hm 2
    have l3 := lst_len hm 3
    have l4 := lst_len hm 4
    have ls := sib_len t m (by omega) hm (G m hm).1
    have O := (G m hm).1
    have lb : (sibBehind t m).length ≤ 16384 := by
      unfold sibBehind
      split
      · simp
      · refine Nat.le_trans (List.length_filter_le _ _) (Nat.le_trans (kidsTo_len _ _ _) ?_)
        have := (endOf_is (t := t) (k := par t m) O.1 (by have := O.2.1; omega)).le
        omega
    have lk : (kidsL t (m : Int)).length ≤ t.length := Nat.le_trans (kidsTo_len _ _ _) hE
    have la := (attrEnds_is (t := t) hm).le
    have e1 : (lst t m 1) = anc t m := rfl
    have e2 : (lst t m 2) = str t (m + 1) (endOf t m) := rfl
    have e3 : (lst t m 3) = str t (endOf t m) t.length := rfl
    have e4 : (lst t m 4) = prec t m := rfl
    rw [e1] at l1
    rw [e2] at l2
    rw [e3] at l3
    rw [e4] at l4
    unfold goA
    split
    · omega
    · omega
    · rw [List.length_take]; omega
    · omega
    · omega
    · rw [List.length_reverse]; omega
    · omega
    · omega
    · rw [attrs_len]; omega
    · simp
    · rw [List.length_cons]; omega
    · rw [List.length_cons]; omega
    · simp
  · simp

theorem kids_len {t : List Nd} (k : Int) (h : t.length ≤ 300) : (kidsS t k).length ≤ 100000 := by
  have := goL_len (t := t) k 1 h
  unfold goL at this
  unfold kidsS
  cases hh : hasB t k with
  | false => simp
  | true =>
    rw [hh, if_pos rfl] at this
    rw [if_pos rfl]
    obtain ⟨m, e, _⟩ := has_iff hh
    rw [e] at this ⊢
    simpa [goA] using this
theorem partS_len {t : List Nd} (k : Int) : (partS t k).length ≤ t.length := by
  unfold partS
  split
  · rename_i hh
    obtain ⟨m, e, hm, _⟩ := has_iff hh
    rw [e, Int.toNat_natCast]
    have hE := end_len t m hm
    have : (partL t m).length = endOf t m - m := by rw [← pstep_all, pstep_len]
    omega
  · simp
theorem own_zero {w : World} {B E : Nat} {e : TypeId} {v : Value} {n : Nat} {xs : List Value} (h : w.ownsRow B e E v n xs) : w.ownsRow 0 e E v n xs := by
  obtain ⟨h1, h2⟩ := h
  refine ⟨h1, ?_⟩
  rcases h2 with hn | ⟨g, cap, cur, hv, hb, hg, r⟩
  · exact Or.inl hn
  · exact Or.inr ⟨g, cap, cur, hv, Nat.zero_le _, hg, r⟩
/-- A row that is new between two worlds. -/
structure NewR (e : TypeId) (E : Nat) (lo hi : Nat) (w : World) (s : Spot) : Prop where
  own : ∃ xs : List Value, xs.length = s.2.1 * E ∧ w.ownsRow 0 e E s.val s.2.1 xs
  blk : ∀ g, s.val.ownBlock = some g → lo ≤ g ∧ g < hi
theorem NewR.kept {e : TypeId} {E lo hi : Nat} {w w' : World} {s : Spot} (h : NewR e E lo hi w s) (f : Fr [] w w') : NewR e E lo hi w' s := by
  obtain ⟨⟨xs, h1, h2⟩, h3⟩ := h
  exact ⟨⟨xs, h1, own_type h2 f (by simp)⟩, h3⟩
theorem newR_of {w0 w : World} {e : TypeId} {E : Nat} {v : Value} {n : Nat} {xs : List Value} (h : w.ownsRow w0.heap.size e E v n xs) : ∃ s : Spot, v = s.val ∧ s.2.1 = n ∧ NewR e E w0.heap.size w.heap.size w s := by
  rcases id h.2 with ⟨e1, e2⟩ | ⟨g, cap, cur, e1, hb, hg, r⟩
  · refine ⟨(none, 0, 0), e1, e2.symm, ⟨xs, by rw [h.1, e2], ?_⟩, fun g hg => by simp [Spot.val, Value.ownBlock] at hg⟩
    have := own_zero h
    rw [e1, e2] at this
    exact this
  · refine ⟨(some ⟨g, 0, none⟩, n, cap), e1, rfl, ⟨xs, h.1, ?_⟩, fun g' hg' => ?_⟩
    · have := own_zero h
      rw [e1] at this
      exact this
    · have : g = g' := by simpa [Spot.val, Value.ownBlock] using hg'
      subst this
      exact ⟨hb, (Array.getElem?_eq_some_iff.1 hg).1⟩
theorem new_lt {e : TypeId} {E lo hi : Nat} {w : World} {s : Spot} (h : NewR e E lo hi w s) (g : Nat) (hg : s.val.ownBlock = some g) : g < w.heap.size := by
  obtain ⟨xs, _, ho⟩ := h.own
  rcases ho.2 with ⟨e, _⟩ | ⟨g', _, cur, e, _, hh, _⟩
  · rw [e] at hg; cases hg
  · rw [e] at hg
    have : g' = g := by simpa [Value.ownBlock] using hg
    subst this
    exact (Array.getElem?_eq_some_iff.1 hh).1
theorem three_nodes (w : World) (s1 s2 s3 : Spot) (B1 B2 B3 B4 : Nat) (o1 : NewR 62 4 B1 B2 w s1) (o2 : NewR 62 4 B2 B3 w s2) (o3 : NewR 62 4 B3 B4 w s3) (h1 : s1.2.1 ≤ 1000) (h2 : s2.2.1 ≤ 1000) (h3 : s3.2.1 ≤ 1000) (h12 : B1 ≤ B2) (h23 : B2 ≤ B3) :
    Calls Tryz.prog 6 #[.slice (some ⟨w.heap.size, 0, none⟩) 3 3] (w.alloc (.cells #[s1.val, s2.val, s3.val] 22)) fun e w' => e = .returned (.bool true) ∧ ∃ G, (∀ g ∈ G, B1 ≤ g) ∧ Fr G (w.alloc (.cells #[s1.val, s2.val, s3.val] 22)) w' := by
  have L := listsN_of (w := w) [s1, s2, s3] #[s1.val, s2.val, s3.val] rfl (by simp) (by intro s hs; simp at hs; rcases hs with rfl | rfl | rfl <;> assumption) (by intro s hs; simp at hs; rcases hs with rfl | rfl | rfl; exact o1.own; exact o2.own; exact o3.own)
    (by
      simp only [List.pairwise_cons, List.mem_cons, List.not_mem_nil, or_false, forall_eq_or_imp, forall_eq]
      refine ⟨⟨fun g e1 e2 => ?_, fun g e1 e2 => ?_⟩, fun g e1 e2 => ?_, by simp⟩
      · have := o1.blk g e1; have := o2.blk g e2; omega
      · have := o1.blk g e1; have := o3.blk g e2; omega
      · have := o2.blk g e1; have := o3.blk g e2; omega)
  have hB : ∀ g ∈ blocksOf [s1, s2, s3], B1 ≤ g := by
    intro g hg
    obtain ⟨s, hs, hb⟩ := blocks_mem.1 hg
    simp at hs
    rcases hs with rfl | rfl | rfl
    · have := o1.blk g hb; omega
    · have := o2.blk g hb; omega
    · have := o3.blk g hb; omega
  have hlt : ∀ g ∈ blocksOf [s1, s2, s3], g < (w.alloc (.cells #[s1.val, s2.val, s3.val] 22)).heap.size := by
    intro g hg
    obtain ⟨s, hs, hb⟩ := blocks_mem.1 hg
    rw [size_new]
    simp at hs
    rcases hs with rfl | rfl | rfl
    · have := new_lt o1 g hb; omega
    · have := new_lt o2 g hb; omega
    · have := new_lt o3 g hb; omega
  refine (Ab.apartNodes_any _ _ 3 _ 3 _ _ _ L (by omega) hlt).mono ?_
  rintro e w' ⟨rfl, f⟩
  exact ⟨rfl, _, hB, fr_ab f⟩
theorem four_ints (w : World) (s1 s2 s3 s4 : Spot) (B1 B2 B3 B4 B5 : Nat) (o1 : NewR 3 1 B1 B2 w s1) (o2 : NewR 3 1 B2 B3 w s2) (o3 : NewR 3 1 B3 B4 w s3) (o4 : NewR 3 1 B4 B5 w s4) (h1 : s1.2.1 ≤ 100000) (h2 : s2.2.1 ≤ 100000) (h3 : s3.2.1 ≤ 100000) (h4 : s4.2.1 ≤ 100000) (h12 : B1 ≤ B2) (h23 : B2 ≤ B3) (h34 : B3 ≤ B4) :
    Calls Tryz.prog 9 #[.slice (some ⟨w.heap.size, 0, none⟩) 4 4] (w.alloc (.cells #[s1.val, s2.val, s3.val, s4.val] 29)) fun e w' => e = .returned (.bool true) ∧ ∃ G, (∀ g ∈ G, B1 ≤ g) ∧ Fr G (w.alloc (.cells #[s1.val, s2.val, s3.val, s4.val] 29)) w' := by
  have one : ∀ {lo hi : Nat} {s : Spot}, NewR 3 1 lo hi w s → ∃ xs : List Value, xs.length = s.2.1 ∧ w.ownsRow 0 3 1 s.val s.2.1 xs := fun h => by
    obtain ⟨xs, a, b⟩ := h.own
    exact ⟨xs, by omega, b⟩
  have L := listsI_of (w := w) [s1, s2, s3, s4] #[s1.val, s2.val, s3.val, s4.val] rfl (by simp) (by intro s hs; simp at hs; rcases hs with rfl | rfl | rfl | rfl <;> assumption) (by intro s hs; simp at hs; rcases hs with rfl | rfl | rfl | rfl; exact one o1; exact one o2; exact one o3; exact one o4)
    (by
      simp only [List.pairwise_cons, List.mem_cons, List.not_mem_nil, or_false, forall_eq_or_imp, forall_eq]
      refine ⟨⟨fun g e1 e2 => ?_, fun g e1 e2 => ?_, fun g e1 e2 => ?_⟩, ⟨fun g e1 e2 => ?_, fun g e1 e2 => ?_⟩, fun g e1 e2 => ?_, by simp⟩
      · have := o1.blk g e1; have := o2.blk g e2; omega
      · have := o1.blk g e1; have := o3.blk g e2; omega
      · have := o1.blk g e1; have := o4.blk g e2; omega
      · have := o2.blk g e1; have := o3.blk g e2; omega
      · have := o2.blk g e1; have := o4.blk g e2; omega
      · have := o3.blk g e1; have := o4.blk g e2; omega)
  have hB : ∀ g ∈ blocksOf [s1, s2, s3, s4], B1 ≤ g := by
    intro g hg
    obtain ⟨s, hs, hb⟩ := blocks_mem.1 hg
    simp at hs
    rcases hs with rfl | rfl | rfl | rfl
    · have := o1.blk g hb; omega
    · have := o2.blk g hb; omega
    · have := o3.blk g hb; omega
    · have := o4.blk g hb; omega
  have hlt : ∀ g ∈ blocksOf [s1, s2, s3, s4], g < (w.alloc (.cells #[s1.val, s2.val, s3.val, s4.val] 29)).heap.size := by
    intro g hg
    obtain ⟨s, hs, hb⟩ := blocks_mem.1 hg
    rw [size_new]
    simp at hs
    rcases hs with rfl | rfl | rfl | rfl
    · have := new_lt o1 g hb; omega
    · have := new_lt o2 g hb; omega
    · have := new_lt o3 g hb; omega
    · have := new_lt o4 g hb; omega
  refine (Ab.apartInts_any _ _ 4 _ 4 _ _ _ L (by omega) hlt).mono ?_
  rintro e w' ⟨rfl, f⟩
  exact ⟨rfl, _, hB, fr_ab f⟩
end Go.Proofs.YtdfgmdddnehocabGreatDoor

namespace Go.Proofs.YtdfgmdddnehocabGreatDoor
open Go.RowKit Go.Maps Go.Lib

set_option maxHeartbeats 400000 in
set_option maxRecDepth 100000 in
theorem copyN_any (w : World) (ad : Option Addr) (n c : Nat) (t : List Nd) (hn : t.length = n) (hN : NodesAt w ad t) (hl : n ≤ 1000) (hz : ad = none → c = 0) :
    Calls Tryz.prog 5 #[.slice ad n c] w fun e w' => ∃ v, e = .returned v ∧ Nodes w w' v t ∧ Fr [] w w' := by
  by_cases h0 : n = 0
  · subst h0
    obtain rfl : t = [] := List.eq_nil_of_length_eq_zero hn
    cases ad with
    | none =>
      obtain rfl := hz rfl
      go_enter Tryz.func5, Tryz.ntmps5
      go_wp2_with fail
      go_ret
      exact ⟨_, rfl, World.ownsRow_nil _ _ _ 4, Fr.refl _ _⟩
    | some a =>
      go_enter Tryz.func5, Tryz.ntmps5
      go_wp2_with fail
      go_ret
      exact ⟨_, rfl, World.ownsRow_nil _ _ _ 4, Fr.refl _ _⟩
  · obtain ⟨b, off, rfl, hI⟩ := hN.in (by omega)
    have HI := Hid.mk hI
    clear hI hN
    go_enter Tryz.func5, Tryz.ntmps5
    go_wp2_with (refine wp_appN rfl _ _ rfl w (.slice none 0 0) [] rfl (World.ownsRow_nil _ _ _ 4) (Nat.le_refl _) b off c n t hn (by omega) rfl HI.out (by simp; omega) (Fr.refl _ _) ?_; intro v5 w5 N5 f5)
    go_ret
    exact ⟨_, rfl, N5, f5⟩

set_option maxHeartbeats 2000000 in
set_option maxRecDepth 100000 in
theorem treeApart_law (w : World) (L : LaidW w) (ad : Option Addr) (n c : Nat) (t : List Nd) (hn : t.length = n) (hN : NodesAt w ad t) (hS : Sane t) (hz : ad = none → c = 0) (hT : n ≤ 300 → vsum t n ≤ 140737488355328) (k : Int) :
    Calls Tryz.prog 3 #[.slice ad n c, .int .i64 k] w fun e w' => e = .returned (.bool true) ∧ Fr [] w w' := by
  have HL := Hid.mk L
  have HN := Hid.mk hn
  have HA := Hid.mk hN
  have HS := Hid.mk hS
  have HZ := Hid.mk hz
  have HT := Hid.mk hT
  clear L hn hN hS hz hT
  by_cases h3 : n ≤ 300
  · have h3' : ¬ (300 : Int) < (n : Int) := by omega
    go_enter Tryz.func3, Tryz.ntmps3
    go_wp2_with fail
    refine (awake_any w HL.out).mono ?_
    rintro e w1 ⟨rfl, f1⟩
    go_wp2_with fail
    refine (copyN_any w1 ad n c t HN.out (HA.out.kept f1) (by omega) HZ.out).mono ?_
    rintro e w2 ⟨v2, rfl, N2, f2⟩
    obtain ⟨a2, c2, rfl, hc2, A2, -⟩ := N2.shape
    obtain ⟨s1, hv1, hs1, O1⟩ := newR_of N2
    have NN2 := Hid.mk N2
    have AA2 := Hid.mk A2
    have OO1 := Hid.mk O1
    have z1 := f1.size
    have z2 := f2.size
    clear N2 A2 O1
    have hl2 : t.length = n := HN.out
    rw [hl2] at hv1 hs1 hc2 ⊢
    have HV1 := Hid.mk hv1
    clear hv1 hl2
    go_wp2_with fail
    refine (Part_any w2 (HL.out.kept (f1.trans f2)) a2 c2 n t HN.out hc2 AA2.out HS.out k).mono ?_
    rintro e w3 ⟨⟨v3, rfl, N3⟩, f3⟩
    obtain ⟨⟨p2, m2, k2⟩, hv2, hs2, O2⟩ := newR_of N3
    have hv2' : v3 = .slice p2 m2 k2 := hv2
    clear hv2
    subst hv2'
    have HS2 : Hid (m2 = (partS t k).length) := Hid.mk hs2
    clear hs2
    have OO2 := Hid.mk O2
    have z3 := f3.size
    have q2 := partS_len (t := t) k
    clear N3 O2
    go_wp2_with fail
    refine (Merge_any w3 a2 n c2 t HN.out (AA2.out.kept f3) HS.out (by omega) (HT.out h3)).mono ?_
    rintro e w4 ⟨v4, t4, rfl, N4, q4, f4⟩
    obtain ⟨⟨p3, m3, k3⟩, hv3, hs3, O3⟩ := newR_of N4
    have hv3' : v4 = .slice p3 m3 k3 := hv3
    clear hv3
    subst hv3'
    have HS3 : Hid (m3 = t4.length) := Hid.mk hs3
    clear hs3
    have OO3 := Hid.mk O3
    have z4 := f4.size
    clear N4 O3
    have ht3 : t.length = n := HN.out
    have T3 := three_nodes w4 s1 (p2, m2, k2) (p3, m3, k3) w1.heap.size w2.heap.size w3.heap.size w4.heap.size (OO1.out.kept (f3.trans f4)) (OO2.out.kept f4) OO3.out (by omega) (by show m2 ≤ 1000; have := HS2.out; omega) (by show m3 ≤ 1000; have := HS3.out; omega) z2 z3
    clear ht3 q2
    rw [← HV1.out] at T3
    have HT3 := Hid.mk T3
    clear T3
    go_wp2_with fail
    refine HT3.out.mono ?_
    rintro e w5 ⟨rfl, G, hG, f5⟩
    have F5 : Fr [] w w5 := ((((f1.trans f2).trans f3).trans f4).alloc _).then f5 (fun q hq hm => by have := hG q hm; omega)
    have FF5 := Hid.mk F5
    clear f5 F5 f1 f2 f3 f4
    go_wp2_with fail
    refine (Kids_any w5 (HL.out.kept FF5.out) ad n c t HN.out (HA.out.kept FF5.out) HS.out k).mono ?_
    rintro e w6 ⟨⟨v6, rfl, I6⟩, f6⟩
    obtain ⟨⟨x1, y1', z1'⟩, hr1, hl1, P1⟩ := newR_of I6
    have hr1' : v6 = .slice x1 y1' z1' := hr1
    clear hr1
    subst hr1'
    have hl1q : y1' ≤ 100000 := by have : y1' = _ := hl1; rw [this]; exact kids_len k (by rw [HN.out]; omega)
    clear hl1
    have PP1 := Hid.mk P1
    have y1 := f6.size
    clear I6 P1
    have F6 := Hid.mk (FF5.out.trans f6)
    go_wp2_with fail
    refine (Go_any w6 (HL.out.kept F6.out) ad n c t HN.out (HA.out.kept F6.out) HS.out k 1).mono ?_
    rintro e w7 ⟨⟨v7, rfl, I7⟩, f7⟩
    obtain ⟨⟨x2, y2', z2'⟩, hr2, hl2', P2⟩ := newR_of I7
    have hr2' : v7 = .slice x2 y2' z2' := hr2
    clear hr2
    subst hr2'
    have hl2q : y2' ≤ 100000 := by have : y2' = _ := hl2'; rw [this]; exact goL_len k 1 (by rw [HN.out]; omega)
    clear hl2'
    have PP2 := Hid.mk P2
    have y2 := f7.size
    clear I7 P2
    have F7 := Hid.mk (F6.out.trans f7)
    go_wp2_with fail
    refine (Go_any w7 (HL.out.kept F7.out) ad n c t HN.out (HA.out.kept F7.out) HS.out k 2).mono ?_
    rintro e w8 ⟨⟨v8, rfl, I8⟩, f8⟩
    obtain ⟨⟨x3, y3', z3'⟩, hr3, hl3, P3⟩ := newR_of I8
    have hr3' : v8 = .slice x3 y3' z3' := hr3
    clear hr3
    subst hr3'
    have hl3q : y3' ≤ 100000 := by have : y3' = _ := hl3; rw [this]; exact goL_len k 2 (by rw [HN.out]; omega)
    clear hl3
    have PP3 := Hid.mk P3
    have y3 := f8.size
    clear I8 P3
    have F8 := Hid.mk (F7.out.trans f8)
    go_wp2_with fail
    refine (Go_any w8 (HL.out.kept F8.out) ad n c t HN.out (HA.out.kept F8.out) HS.out k 8).mono ?_
    rintro e w9 ⟨⟨v9, rfl, I9⟩, f9⟩
    obtain ⟨⟨x4, y4', z4'⟩, hr4, hl4, P4⟩ := newR_of I9
    have hr4' : v9 = .slice x4 y4' z4' := hr4
    clear hr4
    subst hr4'
    have hl4q : y4' ≤ 100000 := by have : y4' = _ := hl4; rw [this]; exact goL_len k 8 (by rw [HN.out]; omega)
    clear hl4
    have PP4 := Hid.mk P4
    have y4 := f9.size
    clear I9 P4
    have F9 := Hid.mk (F8.out.trans f9)
    have y0 := FF5.out.size
    go_wp2_with fail
    refine (four_ints w9 (x1, y1', z1') (x2, y2', z2') (x3, y3', z3') (x4, y4', z4') w5.heap.size w6.heap.size w7.heap.size w8.heap.size w9.heap.size (PP1.out.kept ((f7.trans f8).trans f9)) (PP2.out.kept (f8.trans f9)) (PP3.out.kept f9) PP4.out hl1q hl2q hl3q hl4q y1 y2 y3).mono ?_
    rintro e w10 ⟨rfl, G2, hG2, f10⟩
    have F10 : Fr [] w w10 := (F9.out.alloc _).then f10 (fun q hq hm => by have := hG2 q hm; omega)
    go_wp2_with fail
    go_ret
    exact ⟨rfl, F10⟩
  · have h3' : (300 : Int) < (n : Int) := by omega
    go_enter Tryz.func3, Tryz.ntmps3
    go_wp2_with fail
    refine (awake_any w HL.out).mono ?_
    rintro e w1 ⟨rfl, f1⟩
    go_wp2_with fail
    go_ret
    exact ⟨rfl, f1⟩
end Go.Proofs.YtdfgmdddnehocabGreatDoor

namespace Go.Proofs.YtdfgmdddnehocabGreatDoor
open Go.ChangeShapes Go.WideShapes Go.ChangeAt Go.RowKit Go.Lib

def laidL : List (String × DataW Unit) := [("unicode/utf8.acceptRanges", Rows.laid_unicode_utf8_acceptRanges), ("parchment/chars.spans", Rows.laid_parchment_chars_spans), ("unicode.asciiFold", Rows.laid_unicode_asciiFold), ("unicode.caseOrbit", Rows.laid_unicode_caseOrbit), ("parchment/tree.looks", Rows.laid_parchment_tree_looks), ("unicode.CaseRanges", Rows.laid_unicode_CaseRanges), ("unicode/utf8.first", Rows.laid_unicode_utf8_first)]

theorem acceptEq : (Rows.laid_unicode_utf8_acceptRanges : DataW Unit) = Lib.acceptData := by kernel_rfl
theorem firstEq : (Rows.laid_unicode_utf8_first : DataW Unit) = Lib.firstData := by kernel_rfl
def spanData (x : Int × Int × Nat) : DataW Unit := .agg [.lit (.int .i32 x.1), .lit (.int .i32 x.2.1), .lit (.int .u8 (x.2.2 : Int))]
theorem spansEq : (Rows.laid_parchment_chars_spans : DataW Unit) = .agg (tab.map spanData) := by kernel_rfl
def lookData (x : Nat × Nat × Nat) : DataW Unit := .agg [.lit (.int .u8 (x.1 : Int)), .lit (.int .u8 (x.2.1 : Int)), .lit (.int .u8 (x.2.2 : Int))]
theorem looksEq : (Rows.laid_parchment_tree_looks : DataW Unit) = .agg (lkTab.map lookData) := by kernel_rfl
def foldTab : List Int := (List.range 128).map fun (i : Nat) => if i = 107 then 8490 else if i = 115 then 383 else if 65 ≤ i ∧ i ≤ 90 then (i : Int) + 32 else if 97 ≤ i ∧ i ≤ 122 then (i : Int) - 32 else (i : Int)
theorem foldEq' : (Rows.laid_unicode_asciiFold : DataW Unit) = Lib.tabData .u16 foldTab := by kernel_rfl

theorem sp0 : Tryz.prog.globalNamed "parchment/chars.spans" = some 4 := by kernel_rfl
theorem sp1 : (Tryz.prog.globals[4]?).map (·.type) = some 209 := by kernel_rfl
theorem sp2 : Tryz.prog.cellsOf 208 = 3 := by kernel_rfl
theorem sp3 : Tryz.prog.cellsOf 21 = 1 := by kernel_rfl
theorem sp4 : Tryz.prog.cellsOf 5 = 1 := by kernel_rfl
theorem lk0' : Tryz.prog.globalNamed "parchment/tree.looks" = some 1 := by kernel_rfl
theorem lk1 : (Tryz.prog.globals[1]?).map (·.type) = some 195 := by kernel_rfl
theorem lk2 : Tryz.prog.cellsOf 189 = 3 := by kernel_rfl
theorem af0 : Tryz.prog.globalNamed "unicode.asciiFold" = some 5 := by kernel_rfl
theorem af1 : (Tryz.prog.globals[5]?).map (·.type) = some 211 := by kernel_rfl
theorem af2 : Tryz.prog.cellsOf 210 = 1 := by kernel_rfl
theorem af3 : Tryz.prog.cellsOf 211 = 128 := by kernel_rfl

theorem field_cell {H : Type} {enc : TypeId × Value → H} {P : Program} {w : World} {base : Nat} {sp : Nat → Bool} {held : Bool} {fuel : Nat} {t : TypeId} {fs : Array Field} {k : IntKind} {cs : List Value} {ds : List (DataW H)} {p : List MemPlace} (ht : P.underlying t = some (.struct fs))
    (h : DataW.trod enc P w base sp held fuel t cs = some (.agg ds, p)) (i : Nat) (f : Field) (hf : fs[i]? = some f) (hu : P.underlying f.type = some (.int k)) (hc : P.cellsOf f.type = 1) (z : Int) (hd : ds[i]? = some (.lit (.int k z))) : cs[f.offset]? = some (.int k z) := by
  obtain ⟨xs, n, rfl, hx, hl, hxl, hall⟩ := DataW.trod_struct ht h
  have hxs : xs.map (·.1) = ds := by
    have := congrArg Prod.fst hx
    simpa using this.symm
  have hi : i < fs.size := (Array.getElem?_eq_some_iff.1 hf).1
  have h1 := hall i f hf
  obtain ⟨b, hb⟩ : ∃ b, xs[i]? = some b := ⟨xs[i]'(by omega), List.getElem?_eq_getElem (by omega)⟩
  rw [hb, hc] at h1
  obtain ⟨y, hcz, hbe, _⟩ := DataW.trod_int hu h1
  have h2 : cs[f.offset]? = some (.int k y) := by
    have := congrArg (·[0]?) hcz
    simpa [List.getElem?_take, List.getElem?_drop] using this
  have h3 : (xs.map (·.1))[i]? = some b.1 := by simp [hb]
  rw [hxs, hd] at h3
  have h4 := Option.some.inj h3
  rw [hbe] at h4
  simp only [DataW.lit.injEq, Lit.int.injEq, true_and] at h4
  rw [h2, h4]

theorem of_spans {W : World} (h : VarReads Tryz.prog W "parchment/chars.spans" (.agg (tab.map spanData))) : Spans W := by
  obtain ⟨g, t, cs, fuel, p, hg, hty, hvar, hd⟩ := h
  obtain rfl := Option.some.inj (sp0.symm.trans hg)
  obtain rfl := Option.some.inj (sp1.symm.trans hty)
  intro j hj
  obtain ⟨fuel', d, q, hdi, he⟩ := array_elem Tryz.underlying209 hd j hj
  have hl : j < tab.length := by rw [tab_length]; exact hj
  have hdj : d = spanData (tab.getD j (0, 0, 0)) := by
    rw [List.getElem?_map, List.getElem?_eq_getElem hl] at hdi
    have e : tab.getD j (0, 0, 0) = tab[j] := by simp [List.getD, hl]
    rw [e]
    exact (Option.some.inj hdi).symm
  subst hdj
  rw [sp2] at he
  have f0 := field_cell Tryz.underlying208 he 0 _ rfl Tryz.underlying21 sp3 _ rfl
  have f1 := field_cell Tryz.underlying208 he 1 _ rfl Tryz.underlying21 sp3 _ rfl
  have f2 := field_cell Tryz.underlying208 he 2 _ rfl Tryz.underlying5 sp4 _ rfl
  have c : ∀ off, W.cell? ⟨4, off, none⟩ = cs.toList[off]? := fun off => by rw [World.var?_cell sp0 hvar off, Array.getElem?_toList]
  simp only [List.getElem?_take, List.getElem?_drop] at f0 f1 f2
  refine ⟨?_, ?_, ?_⟩
  · rw [c]; simpa using f0
  · rw [c]; simpa using f1
  · rw [c]; simpa using f2
theorem of_looks {W : World} (h : VarReads Tryz.prog W "parchment/tree.looks" (.agg (lkTab.map lookData))) : Looks W := by
  obtain ⟨g, t, cs, fuel, p, hg, hty, hvar, hd⟩ := h
  obtain rfl := Option.some.inj (lk0'.symm.trans hg)
  obtain rfl := Option.some.inj (lk1.symm.trans hty)
  intro j hj
  obtain ⟨fuel', d, q, hdi, he⟩ := array_elem Tryz.underlying195 hd j hj
  have hl : j < lkTab.length := hj
  have hdj : d = lookData (lkAt j) := by
    rw [List.getElem?_map, List.getElem?_eq_getElem hl] at hdi
    have e : lkAt j = lkTab[j] := by simp [lkAt, List.getD, hl]
    rw [e]
    exact (Option.some.inj hdi).symm
  subst hdj
  rw [lk2] at he
  have f0 := field_cell Tryz.underlying189 he 0 _ rfl Tryz.underlying5 sp4 _ rfl
  have f1 := field_cell Tryz.underlying189 he 1 _ rfl Tryz.underlying5 sp4 _ rfl
  have f2 := field_cell Tryz.underlying189 he 2 _ rfl Tryz.underlying5 sp4 _ rfl
  have c : ∀ off, W.cell? ⟨1, off, none⟩ = cs.toList[off]? := fun off => by rw [World.var?_cell lk0' hvar off, Array.getElem?_toList]
  simp only [List.getElem?_take, List.getElem?_drop] at f0 f1 f2
  refine ⟨?_, ?_, ?_⟩
  · rw [c]; simpa using f0
  · rw [c]; simpa using f1
  · rw [c]; simpa using f2
theorem fold_len : foldTab.length = 128 := by simp [foldTab]
set_option maxRecDepth 100000 in
theorem of_fold {W : World} (h : TabIs Tryz.prog W "unicode.asciiFold" .u16 foldTab) : Folds W :=
  ⟨h.cell af0 120 (by rw [fold_len]; omega), h.cell af0 88 (by rw [fold_len]; omega), h.cell af0 109 (by rw [fold_len]; omega), h.cell af0 77 (by rw [fold_len]; omega), h.cell af0 108 (by rw [fold_len]; omega), h.cell af0 76 (by rw [fold_len]; omega)⟩
theorem of_laid {W : World} (h : laidMetH Tryz.prog laidL W) (hs : W.ShapedOpen Tryz.prog) : LaidW W := by
  rw [MakeChecks.laidMetH_plain _ _ _ (by kernel_rfl)] at h
  have h3 := Lib.laidMet.reads h (n := "unicode/utf8.acceptRanges") (d := Rows.laid_unicode_utf8_acceptRanges) (.head _)
  have h4 := Lib.laidMet.reads h (n := "parchment/chars.spans") (d := Rows.laid_parchment_chars_spans) (.tail _ (.head _))
  have h5 := h.tail.tail
  have h0 := Lib.laidMet.reads h (n := "parchment/tree.looks") (d := Rows.laid_parchment_tree_looks) (.tail _ (.tail _ (.tail _ (.tail _ (.head _)))))
  have h2 := Lib.laidMet.reads h (n := "unicode/utf8.first") (d := Rows.laid_unicode_utf8_first) (.tail _ (.tail _ (.tail _ (.tail _ (.tail _ (.tail _ (.head _)))))))
  rw [acceptEq] at h3
  rw [firstEq] at h2
  rw [spansEq] at h4
  rw [looksEq] at h0
  rw [foldEq'] at h5
  refine ⟨⟨⟨of_spans h4, utf8Tabs_of_readsT (ρ := Tryz.laysValid_ren) (U8Types.of196 Tryz.laysValid) ⟨by kernel_rfl, by kernel_rfl, by kernel_rfl, by kernel_rfl, by kernel_rfl, by kernel_rfl, by kernel_rfl⟩ h2 h3⟩, of_fold (Lib.tabIs_of_head af0 af1 Tryz.underlying211 Tryz.underlying210 af2 af3 h5), ?_⟩, of_looks h0⟩
  exact cell_of_shapedOpen_int (P := Tryz.prog) (g := 0) (t := 3) (zero := #[.int .i64 0]) hs (of_decide_eq_true (by kernel_rfl)) (by kernel_rfl) rfl (by kernel_rfl) (by kernel_rfl) Tryz.underlying3

theorem door_met (os : Os) (args : Array Value) : laidMetH Tryz.prog laidL ((World.laidAll Tryz.prog os laidL).forCall (fun _ _ => 0) ⟨#[], args, []⟩).memory := by
  rw [MakeChecks.laidMetH_plain _ _ _ (by kernel_rfl)]
  exact laidMet_laidAll _ (by kernel_rfl) (by kernel_rfl)

section
variable {H : Type} {enc : TypeId × Value → H}
/-- The wrap of a row that lists variables, the world's shape kept: what a call does, from a contract. -/
theorem wrapped {C : Checked} {os : Os} {f : FuncId} {fn : Func} {s : ChangeSpec} {X : World → Array Value → Prop}
    (hX : ∀ (w w' : World) (args : Array Value), w.heap = w'.heap → X w args → X w' args)
    (own : ownKnob C.prog.godebug = none) (started : os.Started) (noInit : C.prog.inits.idxOf? f = none) (hfn : C.prog.funcs[f]? = some fn)
    (witness : ∃ (w : World) (tape : Tape) (i : Input), w.os = os ∧ (w.forCall tape i).Shaped C.prog ∧ i.vars = [] ∧ Input.okWide C.prog (w.forCall tape i) .any w.heap.size f i ∧
      ((s.pre enc C.prog fn [] false (w.forCall tape i).memory i.args ∧ X (w.forCall tape i).memory i.args) ∧ sizedMet enc C.prog fn (OpenSpec.ofChange s) false (w.forCall tape i).memory i.args) ∧ Assume.holds {} C.prog (lone (Frame.enter C.prog f i.args .normal) [] (w.forCall tape i)))
    (contract : ∀ (W : World) (base : Nat) (args : Array Value) (ds gs : List (DataW H)) (before : List MemPlace),
      (∀ (j : Nat) t v, fn.params[j]? = some t → args[j]? = some v → Value.okWide C.prog W .any base t v) →
      DataW.Whole enc C.prog fn.params.toList s.vars false W args.toList ds gs before →
      (DataW.weightsEach C.prog (fn.params.toList ++ s.plain.varTypes C.prog) (ds ++ gs)).all (· ≤ reachBytes) = true → X W args → W.ShapedOpen C.prog →
      Calls C.prog f args W fun e W' => ∃ v, e = .returned v ∧ s.post enc C.prog fn false true false false W args v W') :
    ReturnsInHanded {} C os f .any (fun w args => (s.pre enc C.prog fn [] false w args ∧ X w args) ∧ sizedMet enc C.prog fn (OpenSpec.ofChange s) false w args) (s.post enc C.prog fn false true false false) := by
  refine returnsInHanded_of_calls own started noInit witness fun w tape i _ hsh _ hok hpre _ => ?_
  obtain ⟨_, _, _, fn', hfn', _, _, _, _, hval⟩ := hok
  obtain rfl : fn' = fn := Option.some.inj (hfn'.symm.trans hfn)
  obtain ⟨⟨⟨ds, gs, before, hw, _⟩, hx⟩, hz⟩ := hpre
  refine (contract (w.forCall tape i) w.heap.size i.args ds gs before hval (hw.of_heap (by rfl)) (hz.weights hw) (hX _ _ _ (by rfl) hx) hsh).mono fun e W' ⟨v, he, hp⟩ => ?_
  subst he
  exact ChangeSpec.post_blind hp
end
end Go.Proofs.YtdfgmdddnehocabGreatDoor

namespace Go.Proofs.YtdfgmdddnehocabGreatDoor
open Go.ChangeShapes Go.WideShapes Go.ChangeAt Go.RowKit Go.Deep

theorem Tryz.cellsN : Tryz.prog.cellsOf 62 = 4 := by kernel_rfl
theorem Tryz.cellsK : Tryz.prog.cellsOf 60 = 1 := by kernel_rfl
theorem Tryz.cells9 : Tryz.prog.cellsOf 9 = 1 := by kernel_rfl
theorem Tryz.cells3 : Tryz.prog.cellsOf 3 = 1 := by kernel_rfl
theorem u8_bounds {x : Int} (h : (Lit.int .u8 x).wf = true) : 0 ≤ x ∧ x < 256 := by
  simp [Lit.wf, show IntKind.u8.min = 0 from rfl, show IntKind.u8.max = 255 from rfl] at h
  omega
theorem i64_bd {x : Int} (h : (Lit.int .i64 x).wf = true) : -9223372036854775808 ≤ x ∧ x ≤ 9223372036854775807 := by
  simp [Lit.wf, show IntKind.i64.min = -9223372036854775808 from rfl, show IntKind.i64.max = 9223372036854775807 from rfl] at h
  exact h
/-- no text of a row is longer than memory is. -/
def Short (t : List Nd) : Prop := ∀ i, i < t.length → (nam t i).size < 140737488355328 ∧ (vlu t i).size < 140737488355328

section
variable {H : Type} {enc : TypeId × Value → H} {w : World} {base : Nat} {spare : Nat → Bool} {held : Bool}
theorem one_of {cs : List Value} {c : Nat} {v : Value} (h : (cs.drop c).take 1 = [v]) : cs[c]? = some v := by
  have := congrArg (·[0]?) h
  simpa [List.getElem?_take, List.getElem?_drop] using this
set_option maxRecDepth 100000 in
theorem node_open {fuel : Nat} {cs : List Value} {x : DataW H × List MemPlace} (h : DataW.trod enc Tryz.prog w base spare held fuel 62 cs = some x) :
    ∃ n : Nd, cs[0]? = some (.int .u8 (n.kind : Nat)) ∧ cs[1]? = some (.string n.name) ∧ cs[2]? = some (.string n.value) ∧ cs[3]? = some (.int .i64 n.parent) ∧ n.kind < 256 ∧ (-9223372036854775808 ≤ n.parent ∧ n.parent ≤ 9223372036854775807) ∧ n.name.size < 9223372036854775808 ∧ n.value.size < 9223372036854775808 ∧
      n.name.size ∈ x.1.weights Tryz.prog 62 ∧ n.value.size ∈ x.1.weights Tryz.prog 62 := by
  obtain ⟨xs, m, rfl, hx, hl, hxl, hall⟩ := DataW.trod_struct Tryz.underlying62 h
  have h0 := hall 0 _ rfl
  have h1 := hall 1 _ rfl
  have h2 := hall 2 _ rfl
  have h3 := hall 3 _ rfl
  match xs, hxl with
  | [x0, x1, x2, x3], _ =>
    have g0 : DataW.trod enc Tryz.prog w base spare held m 60 ((cs.drop 0).take (Tryz.prog.cellsOf 60)) = some x0 := h0
    have g1 : DataW.trod enc Tryz.prog w base spare held m 9 ((cs.drop 1).take (Tryz.prog.cellsOf 9)) = some x1 := h1
    have g2 : DataW.trod enc Tryz.prog w base spare held m 9 ((cs.drop 2).take (Tryz.prog.cellsOf 9)) = some x2 := h2
    have g3 : DataW.trod enc Tryz.prog w base spare held m 3 ((cs.drop 3).take (Tryz.prog.cellsOf 3)) = some x3 := h3
    rw [Tryz.cellsK] at g0
    rw [Tryz.cells9] at g1 g2
    rw [Tryz.cells3] at g3
    obtain ⟨v0, e0, hx0, w0⟩ := DataW.trod_int Tryz.underlying60 g0
    obtain ⟨v1, e1, hx1, w1⟩ := DataW.trod_string Tryz.underlying9 g1
    obtain ⟨v2, e2, hx2, w2⟩ := DataW.trod_string Tryz.underlying9 g2
    obtain ⟨v3, e3, hx3, w3⟩ := DataW.trod_int Tryz.underlying3 g3
    have b0 := u8_bounds w0
    have b3 := i64_bd w3
    have q0 := one_of e0
    have q1 := one_of e1
    have q2 := one_of e2
    have q3 := one_of e3
    unfold maxLen at w1 w2
    refine ⟨⟨v0.toNat, v1, v2, v3⟩, ?_, q1, q2, q3, by show v0.toNat < 256; omega, b3, by show v1.size < _; omega, by show v2.size < _; omega, ?_, ?_⟩
    · rw [q0]
      show some (Value.int .u8 v0) = some (.int .u8 ((v0.toNat : Nat) : Int))
      rw [Int.toNat_of_nonneg b0.1]
    · rw [hx]
      simp [DataW.weights, DataW.weightsEach, Tryz.underlying62, hx1]
    · rw [hx]
      simp [DataW.weights, DataW.weightsEach, Tryz.underlying62, hx2]
theorem weightsAll_mem {P : Program} {e : TypeId} : ∀ {ds : List (DataW H)} {d : DataW H}, d ∈ ds → ∀ n ∈ d.weights P e, n ∈ DataW.weightsAll P e ds
  | d0 :: r, d, h, n, hn => by
    simp only [DataW.weightsAll, List.mem_append]
    rcases List.mem_cons.1 h with rfl | h
    · exact Or.inl hn
    · exact Or.inr (weightsAll_mem h n hn)
set_option maxRecDepth 100000 in
theorem nodes_open {fuel : Nat} {cs : List Value} {x : DataW H × List MemPlace} (h : DataW.trod enc Tryz.prog w base spare held fuel 22 cs = some x) (hz : ∀ n ∈ x.1.weights Tryz.prog 22, n ≤ reachBytes) :
    ∃ ad len cap t, cs = [.slice ad len cap] ∧ t.length = len ∧ len ≤ cap ∧ NodesAt w ad t ∧ Sane t ∧ Short t := by
  rcases open_slice Tryz.underlying22 h with ⟨hcs, _⟩ | ⟨a, len, cap, m, n, D, Pl, rfl, _, hl, hm, hmm, hx1, hx⟩
  · exact ⟨none, 0, 0, [], hcs, rfl, Nat.le_refl _, (fun i hi => absurd hi (Nat.not_lt_zero _)), (fun i hi => absurd hi (Nat.not_lt_zero _)), (fun i hi => absurd hi (Nat.not_lt_zero _))⟩
  · have hlm : len ≤ m := by rw [hmm]; split <;> omega
    rw [Tryz.cellsN] at hx
    have hel : ∀ i, i < m → ∃ y : Nd, (w.cell? (a.add (i * 4)) = some (.int .u8 (y.kind : Nat)) ∧ w.cell? ((a.add (i * 4)).add 1) = some (.string y.name) ∧ w.cell? ((a.add (i * 4)).add 2) = some (.string y.value) ∧ w.cell? ((a.add (i * 4)).add 3) = some (.int .i64 y.parent)) ∧ y.kind < 256 ∧ (-9223372036854775808 ≤ y.parent ∧ y.parent ≤ 9223372036854775807) ∧ y.name.size < 9223372036854775808 ∧ y.value.size < 9223372036854775808 ∧ (i < len → y.name.size ≤ reachBytes ∧ y.value.size ≤ reachBytes) := by
      intro i hi
      obtain ⟨cs', h1, h2⟩ := hx i hi
      obtain ⟨_, hlen, hc⟩ := World.cells?_some h1
      obtain ⟨y, y0, y1, y2, y3, k0, k1, k2, k3, m1, m2⟩ := node_open h2
      have hmem : i < len → ∀ z ∈ (D i).weights Tryz.prog 62, z ≤ reachBytes := fun hil z hzm => hz z (by
        rw [hx1]
        simp only [DataW.weights, Tryz.underlying22, List.mem_cons, List.mem_append]
        exact Or.inr (Or.inl (weightsAll_mem (List.mem_map.2 ⟨i, List.mem_range.2 hil, rfl⟩) z hzm)))
      refine ⟨y, ⟨?_, ?_, ?_, ?_⟩, k0, k1, k2, k3, fun hil => ⟨hmem hil _ m1, hmem hil _ m2⟩⟩
      · have := hc 0 (by omega)
        rw [y0] at this
        simpa [Addr.add] using this
      · have := hc 1 (by omega)
        rw [y1] at this
        exact this
      · have := hc 2 (by omega)
        rw [y2] at this
        exact this
      · have := hc 3 (by omega)
        rw [y3] at this
        exact this
    haveI : Inhabited Nd := ⟨nd0⟩
    obtain ⟨f, hf⟩ := choose_lt (α := Nd) hel
    have hnth : ∀ i, i < len → nth ((List.range len).map f) i = f i := fun i hi => by
      rw [nth_lt (by simpa using hi)]
      simp
    have hrb := reachBytes_lt
    refine ⟨some a, len, cap, (List.range len).map f, rfl, by simp, hl, ?_, ?_, ?_⟩
    · intro i hi
      have hi' : i < len := by simpa using hi
      have h0 := (hf 0 (by omega)).1.1
      obtain ⟨b, off, spot⟩ := a
      have hspot : spot = none := by simpa [Addr.add] using World.cell?_spot h0
      subst hspot
      obtain ⟨⟨c0, c1, c2, c3⟩, _⟩ := hf i (by omega)
      refine ⟨b, off, rfl, ?_⟩
      unfold knd nam vlu par
      rw [hnth i hi']
      simp only [Addr.add_mid] at c0 c1 c2 c3
      exact ⟨c0, c1, c2, c3⟩
    · intro i hi
      have hi' : i < len := by simpa using hi
      obtain ⟨_, k0, k1, k2, k3, _⟩ := hf i (by omega)
      unfold knd nam vlu par
      rw [hnth i hi']
      exact ⟨k0, k1, k2, k3⟩
    · intro i hi
      have hi' : i < len := by simpa using hi
      obtain ⟨_, k0, k1, k2, k3, kz⟩ := hf i (by omega)
      have := kz hi'
      unfold nam vlu
      rw [hnth i hi']
      omega
end
end Go.Proofs.YtdfgmdddnehocabGreatDoor

namespace Go.Proofs.YtdfgmdddnehocabGreatDoor
open Go.ChangeShapes Go.WideShapes Go.ChangeAt Go.RowKit Go.Deep
section
variable {H : Type} {enc : TypeId × Value → H} {w : World} {base : Nat} {spare : Nat → Bool} {held : Bool}
theorem nodes_cap {fuel : Nat} {ad : Option Addr} {len cap : Nat} {x : DataW H × List MemPlace} (h : DataW.trod enc Tryz.prog w base spare held fuel 22 [.slice ad len cap] = some x) : ad = none → cap = 0 := by
  intro e
  subst e
  rcases open_slice Tryz.underlying22 h with ⟨hcs, _⟩ | ⟨a, len, cap, m, n, D, Pl, hcs, _⟩
  · simp at hcs
    exact hcs.2
  · simp at hcs
end
end Go.Proofs.YtdfgmdddnehocabGreatDoor

namespace Go.Proofs.YtdfgmdddnehocabGreatDoor
open Go.ChangeShapes Go.WideShapes Go.ChangeAt Go.RowKit Go.Deep

theorem bulk_part {H : Type} {d : DataW H} {l : List (DataW H)} (h : d ∈ l) : Rows.uptoBulk d ≤ Rows.uptoBulkAll l := by
  induction l with
  | nil => cases h
  | cons x r ih =>
    simp only [Rows.uptoBulkAll]
    cases List.mem_cons.1 h with
    | inl e => subst e; omega
    | inr e => have := ih e; omega
theorem bulk_append {H : Type} (l r : List (DataW H)) : Rows.uptoBulkAll (l ++ r) = Rows.uptoBulkAll l + Rows.uptoBulkAll r := by
  induction l with
  | nil => simp [Rows.uptoBulkAll]
  | cons x l ih => simp only [List.cons_append, Rows.uptoBulkAll, ih]; omega
section
variable {H : Type} {enc : TypeId × Value → H} {w : World} {base : Nat} {spare : Nat → Bool} {held : Bool}
set_option maxRecDepth 100000 in
theorem node_bulk {fuel : Nat} {cs : List Value} {x : DataW H × List MemPlace} (h : DataW.trod enc Tryz.prog w base spare held fuel 62 cs = some x) (v : ByteArray) (hv : cs[2]? = some (.string v)) : v.size ≤ Rows.uptoBulk x.1 := by
  obtain ⟨xs, m, rfl, hx, hl, hxl, hall⟩ := DataW.trod_struct Tryz.underlying62 h
  have h2 := hall 2 _ rfl
  match xs, hxl with
  | [x0, x1, x2, x3], _ =>
    have g2 : DataW.trod enc Tryz.prog w base spare held m 9 ((cs.drop 2).take (Tryz.prog.cellsOf 9)) = some x2 := h2
    rw [Tryz.cells9] at g2
    obtain ⟨v2, e2, hx2, w2⟩ := DataW.trod_string Tryz.underlying9 g2
    have q2 := one_of e2
    rw [hv] at q2
    cases q2
    rw [hx]
    have hb : Rows.uptoBulk x2.1 = v.data.toList.length + 1 := by
      rw [hx2]
      simp [Rows.uptoBulk]
    have hs : v.data.toList.length = v.size := Array.length_toList
    simp only [List.map_cons, List.map_nil, Rows.uptoBulk, Rows.uptoBulkAll, hb]
    omega
theorem nodes_bulk {fuel : Nat} {ad : Option Addr} {len cap : Nat} {x : DataW H × List MemPlace} (h : DataW.trod enc Tryz.prog w base spare held fuel 22 [.slice ad len cap] = some x) (t : List Nd) (ht : t.length = len) (hN : NodesAt w ad t) : vsum t len ≤ Rows.uptoBulk x.1 := by
  rcases open_slice Tryz.underlying22 h with ⟨hcs, _⟩ | ⟨a, len', cap', m, n, D, Pl, hcs, _, hl, hm, hmm, hx1, hx⟩
  · simp at hcs
    obtain ⟨_, rfl, _⟩ := hcs
    exact Nat.zero_le _
  · simp at hcs
    obtain ⟨rfl, rfl, rfl⟩ := hcs
    have hlm : len ≤ m := by rw [hmm]; split <;> omega
    rw [Tryz.cellsN] at hx
    have hel : ∀ i, i < len → (vlu t i).size ≤ Rows.uptoBulk (D i) := by
      intro i hi
      obtain ⟨cs', h1, h2⟩ := hx i (by omega)
      obtain ⟨_, hlen, hc⟩ := World.cells?_some h1
      obtain ⟨b, off, e, -, -, c2, -⟩ := hN i (by omega)
      cases e
      refine node_bulk h2 (vlu t i) ?_
      have := hc 2 (by omega)
      rw [← this, Addr.add_mid, Addr.add_mid]
      exact c2
    have hsum : ∀ j, j ≤ len → vsum t j ≤ Rows.uptoBulkAll ((List.range j).map D) := by
      intro j
      induction j with
      | zero => intro _; exact Nat.zero_le _
      | succ j ih =>
        intro hj
        have h1 := ih (by omega)
        have h2 := hel j (by omega)
        rw [List.range_succ, List.map_append, bulk_append]
        simp only [vsum, List.map_cons, List.map_nil, Rows.uptoBulkAll]
        omega
    have := hsum len (Nat.le_refl _)
    rw [hx1]
    simp only [Rows.uptoBulk]
    omega
end
end Go.Proofs.YtdfgmdddnehocabGreatDoor

