/-
  The kit's flatNodes: at rows of nodes that lie apart it answers true.
-/
import Derived.Test.YtdfgmdddnehocabGreatDoorAbFlatN0
import Derived.Deep.RegionHeld3
import Derived.Deep.CutRange
namespace Go.Proofs.YtdfgmdddnehocabGreatDoor.Ab
open Go.RowKit Go.Maps

/-- Rows of nodes, in a table: where they lie, and that no two share memory. -/
structure ListsN (w : World) (G : List Nat) (K t : Nat) (ad : Nat → Option Addr) (n cap : Nat → Nat) : Prop where
  few : K ≤ 20
  long : ∀ j, j < K → n j ≤ 1000
  table : ∀ j, j < K → w.cell? ⟨t, j, none⟩ = some (.slice (ad j) (n j) (cap j))
  own : ∀ j, j < K → ∃ xs, xs.length = n j * 4 ∧ OwnN w (.slice (ad j) (n j) (cap j)) (n j) xs
  apart : ∀ i j, i < K → j < K → i ≠ j → ∀ g, (Value.slice (ad i) (n i) (cap i)).ownBlock = some g → (Value.slice (ad j) (n j) (cap j)).ownBlock ≠ some g
  within : ∀ j, j < K → ∀ g, (Value.slice (ad j) (n j) (cap j)).ownBlock = some g → g ∈ G
  off : t ∉ G

/-- So far marked. -/
structure MarkedN (w wr : World) (G : List Nat) (K : Nat) (ad : Nat → Option Addr) (n cap : Nat → Nat) (P : Nat → Nat → Prop) : Prop where
  fr : Fr G w wr
  own : ∀ j, j < K → ∃ xs, xs.length = n j * 4 ∧ OwnN wr (.slice (ad j) (n j) (cap j)) (n j) xs ∧ ∀ i, i < n j → P j i → ∀ c, c < 4 → xs[i * 4 + c]? = (mvsN j i)[c]?

theorem MarkedN.mono {w wr : World} {G : List Nat} {K : Nat} {ad : Nat → Option Addr} {n cap : Nat → Nat} {P R : Nat → Nat → Prop} (h : MarkedN w wr G K ad n cap P) (hr : ∀ j i, j < K → i < n j → R j i → P j i) : MarkedN w wr G K ad n cap R :=
  ⟨h.fr, fun j hj => by obtain ⟨xs, a, b, c⟩ := h.own j hj; exact ⟨xs, a, b, fun i hi hR => c i hi (hr j i hj hi hR)⟩⟩
theorem MarkedN.drew {w wr : World} {G : List Nat} {K : Nat} {ad : Nat → Option Addr} {n cap : Nat → Nat} {P : Nat → Nat → Prop} (h : MarkedN w wr G K ad n cap P) : MarkedN w wr.drew G K ad n cap P := ⟨h.fr.drew, h.own⟩
theorem MarkedN.table {w wr : World} {G : List Nat} {K t : Nat} {ad : Nat → Option Addr} {n cap : Nat → Nat} {P : Nat → Nat → Prop} (h : MarkedN w wr G K ad n cap P) (L : ListsN w G K t ad n cap) (j : Nat) (hj : j < K) : wr.cell? ⟨t, j, none⟩ = some (.slice (ad j) (n j) (cap j)) := by
  have hc := L.table j hj
  exact (World.cell?_of_block (h.fr.block t (block_lt_of_cell hc) L.off)).trans hc
theorem set4_atN (xs : List Value) (i s c : Nat) (p q r t : Value) (hc : c < 4) (hs : i * 4 + 3 < xs.length) : ((((xs.set (i * 4) p).set (i * 4 + 1) q).set (i * 4 + 2) r).set (i * 4 + 3) t)[s * 4 + c]? = if s = i then [p, q, r, t][c]? else xs[s * 4 + c]? := by
  simp only [List.getElem?_set, List.length_set]
  by_cases e : s = i
  · subst e
    rw [if_pos rfl]
    rcases (by omega : c = 0 ∨ c = 1 ∨ c = 2 ∨ c = 3) with rfl | rfl | rfl | rfl
    · rw [if_neg (by omega), if_neg (by omega), if_neg (by omega), if_pos (by omega), if_pos (by omega)]; rfl
    · rw [if_neg (by omega), if_neg (by omega), if_pos (by omega), if_pos (by omega)]; rfl
    · rw [if_neg (by omega), if_pos (by omega), if_pos (by omega)]; rfl
    · rw [if_pos (by omega), if_pos (by omega)]; rfl
  · rw [if_neg e, if_neg (by omega), if_neg (by omega), if_neg (by omega), if_neg (by omega)]
theorem MarkedN.put {w wr : World} {G : List Nat} {K t : Nat} {ad : Nat → Option Addr} {n cap : Nat → Nat} {P R : Nat → Nat → Prop} (h : MarkedN w wr G K ad n cap P) (L : ListsN w G K t ad n cap) (k i g : Nat) (hk : k < K) (hi : i < n k) (hg : ad k = some ⟨g, 0, none⟩)
    (hr : ∀ j s, j < K → s < n j → R j s → P j s ∨ j = k ∧ s = i) : MarkedN w ((((wr.setCell ⟨g, i * 4, none⟩ (.int .u8 0)).setCell ⟨g, i * 4 + 1, none⟩ (.string ⟨#[]⟩)).setCell ⟨g, i * 4 + 2, none⟩ (.string ⟨#[]⟩)).setCell ⟨g, i * 4 + 3, none⟩ (.int .i64 (mIN k i))) G K ad n cap R := by
  have hG : g ∈ G := L.within k hk g (by rw [hg]; rfl)
  refine ⟨h.fr.then (fr_set4N wr g i _ _ _ _) (fun j _ hm => by simp at hm; subst hm; exact hG), fun j hj => ?_⟩
  obtain ⟨xs, a, b, c⟩ := h.own j hj
  by_cases e : j = k
  · subst e
    refine ⟨_, ?_, by rw [hg] at b ⊢; exact ownN_set b i _ _ _ _, ?_⟩
    · simpa using a
    · intro s hs hR cc hcc
      rw [set4_atN xs i s cc _ _ _ _ hcc (by omega)]
      by_cases e2 : s = i
      · rw [if_pos e2, e2]; rfl
      · rw [if_neg e2]
        rcases hr j s hj hs hR with h1 | h1
        · exact c s hs h1 cc hcc
        · exact absurd h1.2 e2
  · refine ⟨xs, a, ownN_kept (L := [g]) b (fr_set4N wr g i _ _ _ _) ?_, ?_⟩
    · intro g' hg' hm
      simp at hm
      subst hm
      exact L.apart k j hk hj (fun e2 => e e2.symm) g' (by rw [hg]; rfl) hg'
    · intro s hs hR
      rcases hr j s hj hs hR with h1 | h1
      · exact c s hs h1
      · exact absurd h1.1 e
theorem MarkedN.kept {w wr w' : World} {G : List Nat} {K : Nat} {ad : Nat → Option Addr} {n cap : Nat → Nat} {P : Nat → Nat → Prop} (h : MarkedN w wr G K ad n cap P) (f : Fr [] wr w') : MarkedN w w' G K ad n cap P :=
  ⟨h.fr.then f (fun _ _ e => nomatch e), fun j hj => by obtain ⟨xs, a, b, c⟩ := h.own j hj; exact ⟨xs, a, ownN_kept b f (by simp), c⟩⟩

/-- GrownN: the table h has, for each list so far, one that goes on with 64 bytes more; D: how many of its bytes are marksN. -/
structure GrownN (w wr : World) (G : List Nat) (K : Nat) (ad : Nat → Option Addr) (n cap : Nat → Nat) (h : Nat) (D : Nat → Nat) (k : Nat) (gv : Array Value) : Prop where
  fr : Fr G w wr
  own : ∀ j, j < K → OwnN wr (.slice (ad j) (n j) (cap j)) (n j) (marksN j (n j))
  new : w.heap.size ≤ h
  tab : wr.heap[h]? = some (.cells gv 22)
  size : gv.size = K
  got : ∀ j, j < k → ∃ b c xs, gv[j]? = some (.slice (some ⟨b, 0, none⟩) (n j + 64) c) ∧ OwnN wr (.slice (some ⟨b, 0, none⟩) (n j + 64) c) (n j + 64) xs ∧ (∀ i, i < D j → ∀ c, c < 4 → xs[i * 4 + c]? = (mvsN j i)[c]?) ∧ ((Value.slice (ad j) (n j) (cap j)).ownBlock = some b ∨ w.heap.size ≤ b ∧ b ≠ h)

section
variable {w wr : World} {G : List Nat} {K t : Nat} {ad : Nat → Option Addr} {n cap : Nat → Nat} {h : Nat} {D : Nat → Nat} {k : Nat} {gv : Array Value}
theorem GrownN.table (g : GrownN w wr G K ad n cap h D k gv) (L : ListsN w G K t ad n cap) (j : Nat) (hj : j < K) : wr.cell? ⟨t, j, none⟩ = some (.slice (ad j) (n j) (cap j)) := by
  have hc := L.table j hj
  exact (World.cell?_of_block (g.fr.block t (block_lt_of_cell hc) L.off)).trans hc
theorem GrownN.drew (g : GrownN w wr G K ad n cap h D k gv) : GrownN w wr.drew G K ad n cap h D k gv := ⟨g.fr.drew, g.own, g.new, g.tab, g.size, g.got⟩
theorem GrownN.drewN (g : GrownN w wr G K ad n cap h D k gv) (m : Nat) : GrownN w (wr.drewN m) G K ad n cap h D k gv := by
  induction m with
  | zero => exact g
  | succ m ih => exact ih.drew
theorem GrownN.lt (g : GrownN w wr G K ad n cap h D k gv) : h < wr.heap.size := (Array.getElem?_eq_some_iff.1 g.tab).1
theorem GrownN.kept (g : GrownN w wr G K ad n cap h D k gv) {w' : World} (f : Fr [] wr w') : GrownN w w' G K ad n cap h D k gv :=
  ⟨g.fr.then f (fun _ _ e => nomatch e), fun j hj => ownN_kept (g.own j hj) f (by simp), g.new, f.same (by simp) g.tab, g.size, fun j hj => by
    obtain ⟨b, c, xs, h1, h2, h3, h4⟩ := g.got j hj
    exact ⟨b, c, xs, h1, ownN_kept h2 f (by simp), h3, h4⟩⟩
theorem ListsN.lt (L : ListsN w G K t ad n cap) (j : Nat) (hj : j < K) (g : Nat) (hg : (Value.slice (ad j) (n j) (cap j)).ownBlock = some g) : g < w.heap.size := by
  obtain ⟨xs, _, ho⟩ := L.own j hj
  exact ownN_lt ho g hg
/-- A row of list k's grows: it lies in k's own block, or in one that is new since S. -/
theorem GrownN.app (g : GrownN w wr G K ad n cap h D k gv) (L : ListsN w G K t ad n cap) (hkK : k < K) {S : Nat} (hS : h < S) (hS2 : ∀ j, j < k → ∀ b m c, gv[j]? = some (.slice (some ⟨b, 0, none⟩) m c) → b < S) {v : Value} {m : Nat} (hm : n k ≤ m) {w' : World} (f : Fr v.ownBlock.toList wr w')
    (keep : ∀ u p ys, OwnN wr u p ys → (u.ownBlock = v.ownBlock → p ≤ m) → OwnN w' u p ys)
    (hv : v.ownBlock = (Value.slice (ad k) (n k) (cap k)).ownBlock ∨ ∃ b, v.ownBlock = some b ∧ S ≤ b) : GrownN w w' G K ad n cap h D k gv := by
  have hw := g.new
  have hlt := g.lt
  have key : ∀ b, v.ownBlock = some b → b < S → (Value.slice (ad k) (n k) (cap k)).ownBlock = some b := by
    intro b hb hbS
    rcases hv with e | ⟨b', e, hb'⟩
    · rw [← e]; exact hb
    · rw [hb] at e; cases e; omega
  have hne : v.ownBlock ≠ some h := fun e => by
    have := L.lt k hkK h (key h e hS)
    omega
  refine ⟨g.fr.then f ?_, ?_, g.new, f.same ?_ g.tab, g.size, ?_⟩
  · intro i hi e
    simp at e
    by_cases hiS : i < S
    · exact L.within k hkK i (key i e hiS)
    · omega
  · intro j hj
    refine keep _ _ _ (g.own j hj) ?_
    intro e
    by_cases ej : j = k
    · subst ej; exact hm
    · cases hb : (Value.slice (ad j) (n j) (cap j)).ownBlock with
      | none =>
        rcases (g.own j hj).2 with ⟨_, e2⟩ | ⟨b, c, cur, e2, _⟩
        · omega
        · rw [e2] at hb; cases hb
      | some b =>
        rw [hb] at e
        have hbl := L.lt j hj b hb
        exact absurd hb (L.apart k j hkK hj (fun e => ej e.symm) b (key b e.symm (by omega)))
  · intro e
    simp at e
    exact hne e
  · intro j hj
    obtain ⟨b, c, xs, h1, h2, h3, h4⟩ := g.got j hj
    refine ⟨b, c, xs, h1, keep _ _ _ h2 ?_, h3, h4⟩
    intro e
    have hbS := hS2 j hj b _ _ h1
    have e1 := key b e.symm hbS
    rcases h4 with e2 | ⟨e2, _⟩
    · exact absurd e1 (L.apart j k (by omega) hkK (by omega) b e2)
    · have := L.lt k hkK b e1
      omega
/-- A block that is none of these is written. -/
theorem GrownN.other (g : GrownN w wr G K ad n cap h D k gv) {S mb i : Nat} {x : Value} (hm : S ≤ mb) (L : ListsN w G K t ad n cap) (hS2 : ∀ j, j < k → ∀ b m c, gv[j]? = some (.slice (some ⟨b, 0, none⟩) m c) → b < S) (hS : h < S) : GrownN w (wr.setCell ⟨mb, i, none⟩ x) G K ad n cap h D k gv := by
  have f : Fr [mb] wr (wr.setCell ⟨mb, i, none⟩ x) := (Fr.refl _ _).setCell _ _ (by simp)
  have hw := g.new
  refine ⟨g.fr.setCell _ _ (fun e => by have e' : mb < w.heap.size := e; omega), ?_, g.new, f.same (by simp; omega) g.tab, g.size, ?_⟩
  · intro j hj
    exact ownN_kept (g.own j hj) f (fun g' e e2 => by simp at e2; subst e2; have := L.lt j hj _ e; omega)
  · intro j hj
    obtain ⟨b, c, xs, h1, h2, h3, h4⟩ := g.got j hj
    refine ⟨b, c, xs, h1, ownN_kept h2 f (fun g' e e2 => ?_), h3, h4⟩
    simp at e2
    subst e2
    have : b = g' := by simpa [Value.ownBlock] using e
    have := hS2 j hj b _ _ h1
    omega
theorem GrownN.store (g : GrownN w wr G K ad n cap h D k gv) (hkK : k < K) {b c : Nat} {xs : List Value} (h2 : OwnN wr (.slice (some ⟨b, 0, none⟩) (n k + 64) c) (n k + 64) xs) (h3 : ∀ i, i < D k → ∀ c, c < 4 → xs[i * 4 + c]? = (mvsN k i)[c]?) (h4 : (Value.slice (ad k) (n k) (cap k)).ownBlock = some b ∨ w.heap.size ≤ b ∧ b ≠ h)
    (hoff : ∀ j, j < K → (Value.slice (ad j) (n j) (cap j)).ownBlock ≠ some h) (hbh : b ≠ h) :
    GrownN w (wr.setCell ⟨h, k, none⟩ (.slice (some ⟨b, 0, none⟩) (n k + 64) c)) G K ad n cap h D (k + 1) (gv.setIfInBounds k (.slice (some ⟨b, 0, none⟩) (n k + 64) c)) := by
  have f : Fr [h] wr (wr.setCell ⟨h, k, none⟩ (.slice (some ⟨b, 0, none⟩) (n k + 64) c)) := (Fr.refl _ _).setCell _ _ (by simp)
  have hw := g.new
  refine ⟨g.fr.setCell _ _ (fun e => by have e' : h < w.heap.size := e; omega), ?_, g.new, heap_setCell_same wr h k _ _ _ g.tab, by simpa using g.size, ?_⟩
  · intro j hj
    exact ownN_kept (g.own j hj) f (fun g' e e2 => by simp at e2; subst e2; exact hoff j hj e)
  · intro j hj
    by_cases e : j = k
    · subst e
      refine ⟨b, c, xs, by rw [Array.getElem?_setIfInBounds_self]; simp [g.size, hkK], ownN_kept h2 f ?_, h3, h4⟩
      intro g' e e2
      simp at e2
      subst e2
      exact hbh (by simpa [Value.ownBlock] using e)
    · obtain ⟨b', c', ys, k1, k2, k3, k4⟩ := g.got j (by omega)
      refine ⟨b', c', ys, by rw [Array.getElem?_setIfInBounds_ne (fun e2 => e e2.symm)]; exact k1, ownN_kept k2 f ?_, k3, k4⟩
      intro g' e1 e2
      simp at e2
      subst e2
      have : b' = g' := by simpa [Value.ownBlock] using e1
      subst this
      rcases k4 with k4 | k4
      · exact hoff j (by omega) k4
      · exact k4.2 rfl
theorem GrownN.cell (g : GrownN w wr G K ad n cap h D k gv) (j : Nat) : wr.cell? ⟨h, j, none⟩ = gv[j]? := cell_of_row wr h j _ _ _ g.tab
theorem GrownN.cellIs (g : GrownN w wr G K ad n cap h D k gv) (j : Nat) (hj : j < K) : ∃ v, wr.cell? ⟨h, j, none⟩ = some v := ⟨_, by rw [g.cell, Array.getElem?_eq_getElem (by rw [g.size]; exact hj)]⟩
theorem GrownN.frozen (g : GrownN w wr G K ad n cap h D k gv) (j : Nat) : wr.frozen? ⟨h, j, none⟩ = false := frozen_of_row wr h j _ _ g.tab
theorem GrownN.below (g : GrownN w wr G K ad n cap h D k gv) (j : Nat) (hj : j < k) (b m c : Nat) (e : gv[j]? = some (.slice (some ⟨b, 0, none⟩) m c)) : b < wr.heap.size := by
  obtain ⟨b', c', ys, k1, k2, _, _⟩ := g.got j hj
  rw [k1] at e
  cases e
  exact ownN_lt k2 _ rfl
theorem GrownN.again (g : GrownN w wr G K ad n cap h D k gv) (E : Nat → Nat) : GrownN w wr G K ad n cap h E 0 gv := ⟨g.fr, g.own, g.new, g.tab, g.size, fun j hj => by omega⟩
theorem MarkedN.grown {P : Nat → Nat → Prop} (m : MarkedN w wr G K ad n cap P) (hP : ∀ j i, j < K → P j i) {w' : World} (f : Fr [] wr w') (hh : w.heap.size ≤ h) (ht : w'.heap[h]? = some (.cells gv 22)) (hs : gv.size = K) : GrownN w w' G K ad n cap h D 0 gv :=
  ⟨m.fr.then f (fun _ _ e => nomatch e), fun j hj => by
    obtain ⟨xs, a, b, c⟩ := m.own j hj
    have := marksN_eq a (fun i hi => c i hi (hP j i hj))
    rw [← this]
    exact ownN_kept b f (by simp), hh, ht, hs, fun j hj => by omega⟩
end
theorem cell_set4N {w : World} {g i t k : Nat} {a b c d : Value} (h : g ≠ t) : ((((w.setCell ⟨g, i * 4, none⟩ a).setCell ⟨g, i * 4 + 1, none⟩ b).setCell ⟨g, i * 4 + 2, none⟩ c).setCell ⟨g, i * 4 + 3, none⟩ d).cell? ⟨t, k, none⟩ = w.cell? ⟨t, k, none⟩ := by
  rw [World.cell?_setCell_far _ _ _ _ h, World.cell?_setCell_far _ _ _ _ h, World.cell?_setCell_far _ _ _ _ h, World.cell?_setCell_far _ _ _ _ h]
theorem cell_keepN {w w' : World} {a : Addr} {v : Value} (h : w.cell? a = some v) (f : Fr [] w w') : w'.cell? a = some v :=
  (World.cell?_of_block (f.block a.block (block_lt_of_cell h) (by simp))).trans h
theorem frozen_keepN {w w' : World} {g j : Nat} {cur : Array Value} {T : TypeId} (h : w.heap[g]? = some (.cells cur T)) (f : Fr [] w w') : w'.frozen? ⟨g, j, none⟩ = false := frozen_of_row w' g j _ _ (f.same (by simp) h)
/-- What a row's place holds, in whatever world goes on from here. -/
def Mark4N (w : World) (b k i : Nat) : Prop := w.cell? ⟨b, i * 4, none⟩ = some (.int .u8 0) ∧ w.cell? ⟨b, i * 4 + 1, none⟩ = some (.string ⟨#[]⟩) ∧ w.cell? ⟨b, i * 4 + 2, none⟩ = some (.string ⟨#[]⟩) ∧ w.cell? ⟨b, i * 4 + 3, none⟩ = some (.int .i64 (mIN k i))
theorem Mark4N.kept {w w' : World} {b k i : Nat} (h : Mark4N w b k i) (f : Fr [] w w') : Mark4N w' b k i := ⟨cell_keepN h.1 f, cell_keepN h.2.1 f, cell_keepN h.2.2.1 f, cell_keepN h.2.2.2 f⟩
theorem mark4_ofN {w : World} {ad : Option Addr} {n cap k i : Nat} {xs : List Value} (h : OwnN w (.slice ad n cap) n xs) (hi : i < n) (hx : ∀ c, c < 4 → xs[i * 4 + c]? = (mvsN k i)[c]?) : ∃ g, ad = some ⟨g, 0, none⟩ ∧ Mark4N w g k i := by
  obtain ⟨g, e, key, -⟩ := ownN_cell h i hi
  exact ⟨g, e, key 0 _ (by omega) (by rw [hx 0 (by omega)]; rfl), key 1 _ (by omega) (by rw [hx 1 (by omega)]; rfl), key 2 _ (by omega) (by rw [hx 2 (by omega)]; rfl), key 3 _ (by omega) (by rw [hx 3 (by omega)]; rfl)⟩
theorem four_atN {w : World} {b : Nat} {p q r s : Value} (hb : w.heap[b]? = some (.cells #[p, q, r, s] 62)) : ∀ j u, [p, q, r, s][j]? = some u → w.cell? ⟨b, j, none⟩ = some u := fun j u hu => by rw [cell_of_row w b j _ _ _ hb]; simpa using hu

set_option maxHeartbeats 8000000 in
set_option maxRecDepth 100000 in
theorem flatNodes_any (w : World) (G : List Nat) (K t c : Nat) (ad : Nat → Option Addr) (n cap : Nat → Nat) (L : ListsN w G K t ad n cap) :
    Calls Tryz.prog 40 #[.slice (some ⟨t, 0, none⟩) K c] w fun e w' => e = .returned (.bool true) ∧ Fr G w w' := by
  have hK : (K : Int) ≤ 20 := by have := L.few; omega
  have hK0 : (0 : Int) ≤ (K : Int) := by omega
  go_enter Tryz.func40, Tryz.ntmps40
  go_wp2_with go_in
  go_loopw [3] (fun kv wr => ∃ k : Nat, k ≤ K ∧ kv = .int .i64 k ∧ MarkedN w wr G K ad n cap (fun j _ => j < k)) (fun kv _ => K - (intOf kv).toNat)
  case atStart => exact ⟨0, Nat.zero_le _, rfl, Fr.refl _ _, fun j hj => by obtain ⟨xs, a, b⟩ := L.own j hj; exact ⟨xs, a, b, fun _ _ h => by omega⟩⟩
  case round =>
    obtain ⟨k, hk, rfl, M⟩ := hrel
    by_cases hlt : k < K
    · have hlt' : (k : Int) < (K : Int) := by omega
      have hk0 : (0 : Int) ≤ (k : Int) := by omega
      have hn : (n k : Int) ≤ 1000 := by have := L.long k hlt; omega
      have hn0 : (0 : Int) ≤ (n k : Int) := by omega
      go_wp2_with go_in
      go_loopw [4] (fun iv wx => ∃ i : Nat, i ≤ n k ∧ iv = .int .i64 i ∧ MarkedN w wx G K ad n cap (fun j s => j < k ∨ j = k ∧ s < i)) (fun iv _ => n k - (intOf iv).toNat)
      case atStart => exact ⟨0, Nat.zero_le _, rfl, M.mono (fun j i _ _ h => by omega)⟩
      case round =>
        obtain ⟨i, hi, rfl, M2⟩ := hrel
        have hct := M2.table L k hlt
        by_cases hil : i < n k
        · as_aux_lemma =>
          have hil' : (i : Int) < (n k : Int) := by omega
          have hi0 : (0 : Int) ≤ (i : Int) := by omega
          obtain ⟨xs, hxl, hown, _⟩ := M2.own k hlt
          obtain ⟨g, hg, -, hcv, hfz, hgl⟩ := ownN_cell hown i hil
          rw [hg] at hct
          have hgt : g ≠ t := fun e => L.off (by rw [← e]; exact L.within k hlt g (by rw [hg]; rfl))
          have SKT : Hid (∀ w', Fr [] wr w' → w'.cell? ⟨t, k, none⟩ = some (.slice (some ⟨g, 0, none⟩) (n k) (cap k))) := fun w' f => cell_keepN hct f
          obtain ⟨v0, h0⟩ := hcv 0 (by omega)
          obtain ⟨v1, h1⟩ := hcv 1 (by omega)
          obtain ⟨v2, h2⟩ := hcv 2 (by omega)
          obtain ⟨v3, h3⟩ := hcv 3 (by omega)
          have h0' : wr.cell? ⟨g, i * 4, none⟩ = some v0 := h0
          have SKC : Hid (∀ w', Fr [] wr w' → (w'.cell? ⟨g, i * 4, none⟩ = some v0 ∧ w'.cell? ⟨g, i * 4 + 1, none⟩ = some v1 ∧ w'.cell? ⟨g, i * 4 + 2, none⟩ = some v2 ∧ w'.cell? ⟨g, i * 4 + 3, none⟩ = some v3) ∧ ∀ j, w'.frozen? ⟨g, j, none⟩ = false) := fun w' f => ⟨⟨cell_keepN h0' f, cell_keepN h1 f, cell_keepN h2 f, cell_keepN h3 f⟩, fun j => by
            rcases hown.2 with ⟨e, e2⟩ | ⟨g', c', cur, e, _, hh, _⟩
            · omega
            · rw [hg] at e
              cases e
              exact frozen_keepN hh f⟩
          have MP : Hid (∀ w', Fr [] wr w' → MarkedN w ((((w'.setCell ⟨g, i * 4, none⟩ (.int .u8 0)).setCell ⟨g, i * 4 + 1, none⟩ (.string ⟨#[]⟩)).setCell ⟨g, i * 4 + 2, none⟩ (.string ⟨#[]⟩)).setCell ⟨g, i * 4 + 3, none⟩ (.int .i64 (mIN k i))) G K ad n cap (fun j s => j < k ∨ j = k ∧ s < i + 1)) := fun w' f => (M2.kept f).put L k i g hlt hil hg (fun j s _ _ h => by omega)
          have fd := (Fr.refl [] wr).drew
          clear hown hxl hcv hfz h0 h0' h1 h2 h3
          go_wp2_with go_in
          obtain ⟨W0, HW0⟩ : ∃ W0, Hid (W0 = wr) := ⟨_, rfl⟩
          have gg : Fr [] W0 wr.drew := by rw [HW0.out]; exact fd
          rw [← HW0.out] at SKT SKC MP
          have kt := SKT.out _ gg
          go_region_held3 (fun w' => w'.cell? ⟨t, k, none⟩ = some (.slice (some ⟨g, 0, none⟩) (n k) (cap k))) (first | exact SKT.out _ gg | (rw [cell_set4N hgt]; exact SKT.out _ gg))
            ((go_at_call 65; refine (markNode_any _ k i (by omega) (by omega) (by omega) (by omega)).mono ?_; rintro e w5 ⟨rfl, f5⟩; replace gg := gg.trans f5; obtain ⟨⟨y0, y1, y2, y3⟩, yz⟩ := SKC.out _ gg; have z0 := yz (i * 4); have z1 := yz (i * 4 + 1); have z2 := yz (i * 4 + 2); have z3 := yz (i * 4 + 3); have mp := MP.out _ gg))
          all_goals
            go_wp2_with go_in
            have HW := HW0.out
            subst HW
            exact ⟨⟨i + 1, by omega, by go_num, mp⟩, by simp [intOf]; omega⟩
        · obtain rfl : i = n k := by omega
          go_wp2_with go_in
          exact ⟨⟨k + 1, by omega, by go_num, M2.mono (fun j s _ hs h => by by_cases e : j = k; exact Or.inr ⟨e, by rw [← e]; exact hs⟩; exact Or.inl (by omega))⟩, by simp [intOf]; omega⟩
    · obtain rfl : K = k := by omega
      have hsz := M.fr.size
      go_wp2_with (refine wp_makeLN rfl _ _ rfl K rfl rfl (by omega) ?_; intro w5 gv5 hb5 hs5 f5)
      have g0 := M.grown (D := fun j => n j + 64) (h := wr.heap.size) (fun j _ hj => hj) f5 hsz hb5 hs5
      clear hb5 hs5 f5 M
      have hoff : ∀ j, j < K → (Value.slice (ad j) (n j) (cap j)).ownBlock ≠ some wr.heap.size := fun j hj e => by have := L.lt j hj _ e; omega
      have HO : Hid (∀ j, j < K → (Value.slice (ad j) (n j) (cap j)).ownBlock ≠ some wr.heap.size) := hoff
      clear hoff
      generalize wr.heap.size = h at *
      go_loopw [6] (fun kv wx => ∃ k gv, k ≤ K ∧ kv = .int .i64 (k : Nat) ∧ GrownN w wx G K ad n cap h (fun j => n j + 64) k gv) (fun kv _ => K - (intOf kv).toNat)
      case atStart => exact ⟨0, _, Nat.zero_le _, rfl, g0⟩
      case round =>
        obtain ⟨k, gv, hk, rfl, g1⟩ := hrel
        by_cases hlt : k < K
        · have hlt' : (k : Int) < (K : Int) := by omega
          have hk0 : (0 : Int) ≤ (k : Int) := by omega
          have hn : (n k : Int) ≤ 1000 := by have := L.long k hlt; omega
          have hn0 : (0 : Int) ≤ (n k : Int) := by omega
          have hct := g1.table L k hlt
          obtain ⟨S, hS⟩ : ∃ S, S = wr.heap.size := ⟨_, rfl⟩
          have HS2 : Hid (∀ j, j < k → ∀ b m c, gv[j]? = some (.slice (some ⟨b, 0, none⟩) m c) → b < S) := fun j hj b m c e => by rw [hS]; exact g1.below j hj b m c e
          have hSh : h < S := by rw [hS]; exact g1.lt
          have hSw : S ≤ wr.heap.size := by omega
          clear hS
          go_wp2_with go_in
          go_loopw [7, 8] (fun vv iv wx => ∃ (i : Nat) (a' : Option Addr) (c' : Nat), i ≤ 64 ∧ iv = .int .i64 (i : Nat) ∧ vv = .slice a' (n k + i) c' ∧ S ≤ wx.heap.size ∧ GrownN w wx G K ad n cap h (fun j => n j + 64) k gv ∧ OwnN wx (.slice a' (n k + i) c') (n k + i) (marksN k (n k + i)) ∧ ((Value.slice a' (n k + i) c').ownBlock = (Value.slice (ad k) (n k) (cap k)).ownBlock ∨ ∃ b, (Value.slice a' (n k + i) c').ownBlock = some b ∧ S ≤ b)) (fun _ iv _ => 64 - (intOf iv).toNat)
          case atStart => exact ⟨0, _, _, by omega, rfl, rfl, hSw, g1, g1.own k hlt, Or.inl rfl⟩
          case round =>
            obtain ⟨i, a', c', hi, rfl, rfl, hSx, g2, ho2, hb2⟩ := hrel
            have hct := g2.table L k hlt
            have hi0 : (0 : Int) ≤ (i : Int) := by omega
            by_cases hil : i < 64
            · as_aux_lemma =>
              have hil' : (i : Int) < 64 := by omega
              go_wp2_with fail
              refine (markNode_any _ k _ (by omega) (by omega) (by omega) (by omega)).mono ?_
              rintro e w4 ⟨rfl, f4⟩
              have fA := f4.alloc (.cells #[.int .u8 0, .string ⟨#[]⟩, .string ⟨#[]⟩, .int .i64 (mIN (k : Int) ((n k : Int) + (i : Int)))] 62)
              have oA := ownN_kept ho2 fA (by simp)
              have gA := g2.kept fA
              have nA := four_atN (heap_alloc_new w4 (.cells #[.int .u8 0, .string ⟨#[]⟩, .string ⟨#[]⟩, .int .i64 (mIN (k : Int) ((n k : Int) + (i : Int)))] 62))
              have hs4 := f4.size
              go_wp2_with (refine wp_appNd rfl _ _ rfl (.slice a' (n k + i) c') _ _ rfl oA w4.heap.size 1 1 [.int .u8 0, .string ⟨#[]⟩, .string ⟨#[]⟩, .int .i64 (mIN (k : Int) ((n k : Int) + (i : Int)))] rfl rfl nA (by intro u hu; simp at hu; rcases hu with rfl | rfl | rfl <;> rfl) (by omega) (by omega) ?_; intro g5 cap5 w5 o5 f5 at5 lt5 keep5)
              have g3 := gA.app L hlt hSh HS2.out (by omega) f5 keep5 hb2
              have hsz5 := f5.size
              simp at hsz5
              refine ⟨⟨i + 1, _, _, by omega, by go_num, rfl, by omega, g3, ?_, ?_⟩, by simp [intOf]; omega⟩
              · rw [show n k + (i + 1) = n k + i + 1 from rfl, marksN_succ]
                have e7 : mvsN k (n k + i) = [.int .u8 0, .string ⟨#[]⟩, .string ⟨#[]⟩, .int .i64 (mIN (k : Int) ((n k : Int) + (i : Int)))] := by unfold mvsN; rw [Int.natCast_add]
                rw [e7]
                exact o5
              · rcases at5 with e | e
                · rcases hb2 with e2 | ⟨b, e2, hb⟩
                  · exact Or.inl (by rw [← e2, e]; rfl)
                  · rw [e2] at e
                    cases e
                    exact Or.inr ⟨g5, rfl, hb⟩
                · exact Or.inr ⟨g5, rfl, by simp at e; omega⟩
            · obtain rfl : i = 64 := by omega
              obtain ⟨g6, rfl, _, _, _, lt6⟩ := ownN_cell ho2 0 (by omega)
              have hw6 : g6 ≠ h := by
                rintro rfl
                rcases hb2 with e | ⟨b, e, hb⟩
                · exact HO.out k hlt e.symm
                · have : g6 = b := by simpa [Value.ownBlock] using e
                  omega
              have g4 := g2.store hlt ho2 (fun i hi c hc => marksN_at k _ i c hi hc) (by
                rcases hb2 with e | ⟨b, e, hb⟩
                · exact Or.inl e.symm
                · have : g6 = b := by simpa [Value.ownBlock] using e
                  exact Or.inr ⟨by have := g2.new; omega, hw6⟩) HO.out hw6
              obtain ⟨vv, hcv⟩ := g2.cellIs k hlt
              have hfz := g2.frozen k
              go_wp2_with go_in
              exact ⟨⟨k + 1, _, by omega, by go_num, g4⟩, by simp [intOf]; omega⟩
        · obtain rfl : K = k := by omega
          go_wp2_with go_in
          clear g0
          go_loopw [9] (fun kv wx => ∃ k, k ≤ K ∧ kv = .int .i64 (k : Nat) ∧ GrownN w wx G K ad n cap h (fun j => n j + 64) K gv) (fun kv _ => K - (intOf kv).toNat)
          case atStart => exact ⟨0, Nat.zero_le _, rfl, g1⟩
          case round =>
            obtain ⟨k, hk, rfl, g2⟩ := hrel
            by_cases hlt : k < K
            · have hlt' : (k : Int) < (K : Int) := by omega
              have hk0 : (0 : Int) ≤ (k : Int) := by omega
              have hn : (n k : Int) ≤ 1000 := by have := L.long k hlt; omega
              have hn0 : (0 : Int) ≤ (n k : Int) := by omega
              go_wp2_with go_in
              go_loopw [10] (fun iv wx => ∃ i, i ≤ n k + 64 ∧ iv = .int .i64 (i : Nat) ∧ GrownN w wx G K ad n cap h (fun j => n j + 64) K gv) (fun iv _ => n k + 64 - (intOf iv).toNat)
              case atStart => exact ⟨0, Nat.zero_le _, rfl, g2⟩
              case round =>
                obtain ⟨i, hi, rfl, g3⟩ := hrel
                have hct := g3.table L k hlt
                obtain ⟨b, cb, xs, k1, k2, k3, _⟩ := g3.got k hlt
                have hcg := g3.cell k
                rw [k1] at hcg
                have hi0 : (0 : Int) ≤ (i : Int) := by omega
                by_cases hil : i < n k + 64
                · have hil' : (i : Int) < (n k : Int) + 64 := by omega
                  obtain ⟨_, e6, m6⟩ := mark4_ofN k2 hil (k3 i hil)
                  cases e6
                  have G3 : Hid (∀ w', Fr [] wr w' → GrownN w w' G K ad n cap h (fun j => n j + 64) K gv) := fun w' f => g3.kept f
                  by_cases hin : i < n k
                  · as_aux_lemma =>
                    have hin' : (i : Int) < (n k : Int) := by omega
                    obtain ⟨g7, e7, m7⟩ := mark4_ofN (g3.own k hlt) hin (fun c hc => marksN_at k _ i c hin hc)
                    rw [e7] at hct
                    have SK : Hid (∀ w', Fr [] wr w' → w'.cell? ⟨h, k, none⟩ = some (.slice (some ⟨b, 0, none⟩) (n k + 64) cb) ∧ w'.cell? ⟨t, k, none⟩ = some (.slice (some ⟨g7, 0, none⟩) (n k) (cap k)) ∧ Mark4N w' b k i ∧ Mark4N w' g7 k i) := fun w' f => ⟨cell_keepN hcg f, cell_keepN hct f, m6.kept f, m7.kept f⟩
                    have fd := (Fr.refl [] wr).drew
                    clear k1 k2 k3 g3 m6 m7 e7
                    unfold Mark4N at SK
                    go_wp2_with go_in
                    clear hcg hct
                    obtain ⟨W0, HW0⟩ : ∃ W0, Hid (W0 = wr) := ⟨_, rfl⟩
                    have gg : Fr [] W0 wr.drew := by rw [HW0.out]; exact fd
                    rw [← HW0.out] at SK G3
                    have kt := SK.out _ gg
                    clear kt
                    refine wp_region_held_drew (S := fun w' => Fr [] W0 w') (by kernel_rfl) gg (fun hHeld => ?_)
                    refine wpAnyH_take (i := 0) (v := ?_) rfl (by kernel_rfl) (by kernel_rfl) (by kernel_rfl) (fun _ _ _ h => h) (Or.inl ⟨by kernel_rfl, ?_⟩) hHeld ?_
                    rotate_left
                    · intro w' hSw
                      go_simp
                      try with_reducible rfl
                    try simp only [Act.put, List.getElem_toArray, List.getElem_cons_zero, List.setIfInBounds_toArray, List.set_cons_zero, List.set_cons_succ]
                    refine wpAnyH_take (i := 1) (v := ?_) rfl (by kernel_rfl) (by kernel_rfl) (by kernel_rfl) (fun _ _ _ h => h) (Or.inl ⟨by kernel_rfl, ?_⟩) hHeld ?_
                    rotate_left
                    · intro w' hSw
                      go_simp
                      try with_reducible rfl
                    try simp only [Act.put, List.getElem_toArray, List.getElem_cons_succ, List.getElem_cons_zero, List.setIfInBounds_toArray, List.set_cons_zero, List.set_cons_succ]
                    refine wpAnyH_take (i := 2) (v := ?_) rfl (by kernel_rfl) (by kernel_rfl) (by kernel_rfl) (fun _ _ _ h => h) (Or.inl ⟨by kernel_rfl, ?_⟩) hHeld ?_
                    rotate_left
                    · intro w' hSw
                      go_simp
                      try with_reducible rfl
                    try simp only [Act.put, List.getElem_toArray, List.getElem_cons_succ, List.getElem_cons_zero, List.setIfInBounds_toArray, List.set_cons_zero, List.set_cons_succ]
                    refine wpAnyH_take (i := 3) (v := ?_) rfl (by kernel_rfl) (by kernel_rfl) (by kernel_rfl) (fun _ _ _ h => h) (Or.inl ⟨by kernel_rfl, ?_⟩) hHeld ?_
                    rotate_left
                    · intro w' hSw
                      have q3 := (SK.out w' hSw).1
                      go_simp
                      try with_reducible rfl
                    try simp only [Act.put, List.getElem_toArray, List.getElem_cons_succ, List.getElem_cons_zero, List.setIfInBounds_toArray, List.set_cons_zero, List.set_cons_succ]
                    refine wpAnyH_take (i := 4) (v := ?_) rfl (by kernel_rfl) (by kernel_rfl) (by kernel_rfl) (fun _ _ _ h => h) (Or.inl ⟨by kernel_rfl, ?_⟩) hHeld ?_
                    rotate_left
                    · intro w' hSw
                      go_simp
                      try with_reducible rfl
                    try simp only [Act.put, List.getElem_toArray, List.getElem_cons_succ, List.getElem_cons_zero, List.setIfInBounds_toArray, List.set_cons_zero, List.set_cons_succ]
                    refine wpAnyH_take (i := 5) (v := ?_) rfl (by kernel_rfl) (by kernel_rfl) (by kernel_rfl) (fun _ _ _ h => h) (Or.inl ⟨by kernel_rfl, ?_⟩) hHeld ?_
                    rotate_left
                    · intro w' hSw
                      go_simp
                      try with_reducible rfl
                    try simp only [Act.put, List.getElem_toArray, List.getElem_cons_succ, List.getElem_cons_zero, List.setIfInBounds_toArray, List.set_cons_zero, List.set_cons_succ]
                    refine wpAnyH_take (i := 6) (v := ?_) rfl (by kernel_rfl) (by kernel_rfl) (by kernel_rfl) (fun _ _ _ h => h) (Or.inl ⟨by kernel_rfl, ?_⟩) hHeld ?_
                    rotate_left
                    · intro w' hSw
                      obtain ⟨q4, q5, q6, q7⟩ := (SK.out w' hSw).2.2.1
                      go_simp
                      try with_reducible rfl
                    try simp only [Act.put, List.getElem_toArray, List.getElem_cons_succ, List.getElem_cons_zero, List.setIfInBounds_toArray, List.set_cons_zero, List.set_cons_succ]
                    refine wpAnyH_take (i := 7) (v := ?_) rfl (by kernel_rfl) (by kernel_rfl) (by kernel_rfl) (fun _ _ _ h => h) (Or.inl ⟨by kernel_rfl, ?_⟩) hHeld ?_
                    rotate_left
                    · intro w' hSw
                      go_simp
                      try with_reducible rfl
                    try simp only [Act.put, List.getElem_toArray, List.getElem_cons_succ, List.getElem_cons_zero, List.setIfInBounds_toArray, List.set_cons_zero, List.set_cons_succ]
                    refine wpAnyH_take (i := 8) (v := ?_) rfl (by kernel_rfl) (by kernel_rfl) (by kernel_rfl) (fun _ _ _ h => h) (Or.inl ⟨by kernel_rfl, ?_⟩) hHeld ?_
                    rotate_left
                    · intro w' hSw
                      go_simp
                      try with_reducible rfl
                    try simp only [Act.put, List.getElem_toArray, List.getElem_cons_succ, List.getElem_cons_zero, List.setIfInBounds_toArray, List.set_cons_zero, List.set_cons_succ]
                    refine wpAnyH_ready (rs := [9]) (by kernel_rfl) (by simp) ?_
                    refine AllReadyH.cons rfl (fun K hK => ?_) AllReadyH.nil
                    rw [if_pos (by kernel_rfl)]
                    go_wp2_with (go_at_call 65; refine (markNode_any _ k i (by omega) (by omega) (by omega) (by omega)).mono ?_; rintro e w109 ⟨rfl, f5⟩)
                    refine hK.out _ _ (hHeld.trans f5) (fun hHeld => ?_)
                    clear hK K f5
                    try simp only [Act.put, List.getElem_toArray, List.getElem_cons_succ, List.getElem_cons_zero, List.setIfInBounds_toArray, List.set_cons_zero, List.set_cons_succ]
                    refine wpAnyH_take (i := 10) (v := .bool true) rfl (by kernel_rfl) (by kernel_rfl) (by kernel_rfl) (fun _ _ _ h => h) (Or.inl ⟨by kernel_rfl, fun w' _ => eqlY _ _ _ _ _ (mIN (k : Int) (i : Int)) rfl rfl rfl w'⟩) hHeld ?_
                    try simp only [Act.put, List.getElem_toArray, List.getElem_cons_succ, List.getElem_cons_zero, List.setIfInBounds_toArray, List.set_cons_zero, List.set_cons_succ]
                    refine wpAnyH_take (i := 11) (v := ?_) rfl (by kernel_rfl) (by kernel_rfl) (by kernel_rfl) (fun _ _ _ h => h) (Or.inl ⟨by kernel_rfl, ?_⟩) hHeld ?_
                    rotate_left
                    · intro w' hSw
                      go_simp
                      try with_reducible rfl
                    try simp only [Act.put, List.getElem_toArray, List.getElem_cons_succ, List.getElem_cons_zero, List.setIfInBounds_toArray, List.set_cons_zero, List.set_cons_succ]
                    refine wpAnyH_take (i := 12) (v := ?_) rfl (by kernel_rfl) (by kernel_rfl) (by kernel_rfl) (fun _ _ _ h => h) (Or.inl ⟨by kernel_rfl, ?_⟩) hHeld ?_
                    rotate_left
                    · intro w' hSw
                      go_simp
                      try with_reducible rfl
                    try simp only [Act.put, List.getElem_toArray, List.getElem_cons_succ, List.getElem_cons_zero, List.setIfInBounds_toArray, List.set_cons_zero, List.set_cons_succ]
                    refine wpAnyH_take (i := 13) (v := ?_) rfl (by kernel_rfl) (by kernel_rfl) (by kernel_rfl) (fun _ _ _ h => h) (Or.inl ⟨by kernel_rfl, ?_⟩) hHeld ?_
                    rotate_left
                    · intro w' hSw
                      go_simp
                      try with_reducible rfl
                    try simp only [Act.put, List.getElem_toArray, List.getElem_cons_succ, List.getElem_cons_zero, List.setIfInBounds_toArray, List.set_cons_zero, List.set_cons_succ]
                    refine wpAnyH_take (i := 14) (v := ?_) rfl (by kernel_rfl) (by kernel_rfl) (by kernel_rfl) (fun _ _ _ h => h) (Or.inl ⟨by kernel_rfl, ?_⟩) hHeld ?_
                    rotate_left
                    · intro w' hSw
                      go_simp
                      try with_reducible rfl
                    try simp only [Act.put, List.getElem_toArray, List.getElem_cons_succ, List.getElem_cons_zero, List.setIfInBounds_toArray, List.set_cons_zero, List.set_cons_succ]
                    refine wpAnyH_take (i := 15) (v := ?_) rfl (by kernel_rfl) (by kernel_rfl) (by kernel_rfl) (fun _ _ _ h => h) (Or.inl ⟨by kernel_rfl, ?_⟩) hHeld ?_
                    rotate_left
                    · intro w' hSw
                      go_simp
                      try with_reducible rfl
                    try simp only [Act.put, List.getElem_toArray, List.getElem_cons_succ, List.getElem_cons_zero, List.setIfInBounds_toArray, List.set_cons_zero, List.set_cons_succ]
                    refine wpAnyH_take (i := 16) (v := ?_) rfl (by kernel_rfl) (by kernel_rfl) (by kernel_rfl) (fun _ _ _ h => h) (Or.inl ⟨by kernel_rfl, ?_⟩) hHeld ?_
                    rotate_left
                    · intro w' hSw
                      go_simp
                      try with_reducible rfl
                    try simp only [Act.put, List.getElem_toArray, List.getElem_cons_succ, List.getElem_cons_zero, List.setIfInBounds_toArray, List.set_cons_zero, List.set_cons_succ]
                    refine wpAnyH_take (i := 17) (v := ?_) rfl (by kernel_rfl) (by kernel_rfl) (by kernel_rfl) (fun _ _ _ h => h) (Or.inl ⟨by kernel_rfl, ?_⟩) hHeld ?_
                    rotate_left
                    · intro w' hSw
                      have q8 := (SK.out w' hSw).2.1
                      go_simp
                      try with_reducible rfl
                    try simp only [Act.put, List.getElem_toArray, List.getElem_cons_succ, List.getElem_cons_zero, List.setIfInBounds_toArray, List.set_cons_zero, List.set_cons_succ]
                    refine wpAnyH_take (i := 18) (v := ?_) rfl (by kernel_rfl) (by kernel_rfl) (by kernel_rfl) (fun _ _ _ h => h) (Or.inl ⟨by kernel_rfl, ?_⟩) hHeld ?_
                    rotate_left
                    · intro w' hSw
                      go_simp
                      try with_reducible rfl
                    try simp only [Act.put, List.getElem_toArray, List.getElem_cons_succ, List.getElem_cons_zero, List.setIfInBounds_toArray, List.set_cons_zero, List.set_cons_succ]
                    refine wpAnyH_take (i := 19) (v := ?_) rfl (by kernel_rfl) (by kernel_rfl) (by kernel_rfl) (fun _ _ _ h => h) (Or.inl ⟨by kernel_rfl, ?_⟩) hHeld ?_
                    rotate_left
                    · intro w' hSw
                      go_simp
                      try with_reducible rfl
                    try simp only [Act.put, List.getElem_toArray, List.getElem_cons_succ, List.getElem_cons_zero, List.setIfInBounds_toArray, List.set_cons_zero, List.set_cons_succ]
                    refine wpAnyH_take (i := 20) (v := ?_) rfl (by kernel_rfl) (by kernel_rfl) (by kernel_rfl) (fun _ _ _ h => h) (Or.inl ⟨by kernel_rfl, ?_⟩) hHeld ?_
                    rotate_left
                    · intro w' hSw
                      go_simp
                      try with_reducible rfl
                    try simp only [Act.put, List.getElem_toArray, List.getElem_cons_succ, List.getElem_cons_zero, List.setIfInBounds_toArray, List.set_cons_zero, List.set_cons_succ]
                    refine wpAnyH_take (i := 21) (v := ?_) rfl (by kernel_rfl) (by kernel_rfl) (by kernel_rfl) (fun _ _ _ h => h) (Or.inl ⟨by kernel_rfl, ?_⟩) hHeld ?_
                    rotate_left
                    · intro w' hSw
                      go_simp
                      try with_reducible rfl
                    try simp only [Act.put, List.getElem_toArray, List.getElem_cons_succ, List.getElem_cons_zero, List.setIfInBounds_toArray, List.set_cons_zero, List.set_cons_succ]
                    refine wpAnyH_take (i := 22) (v := ?_) rfl (by kernel_rfl) (by kernel_rfl) (by kernel_rfl) (fun _ _ _ h => h) (Or.inl ⟨by kernel_rfl, ?_⟩) hHeld ?_
                    rotate_left
                    · intro w' hSw
                      go_simp
                      try with_reducible rfl
                    try simp only [Act.put, List.getElem_toArray, List.getElem_cons_succ, List.getElem_cons_zero, List.setIfInBounds_toArray, List.set_cons_zero, List.set_cons_succ]
                    refine wpAnyH_take (i := 23) (v := ?_) rfl (by kernel_rfl) (by kernel_rfl) (by kernel_rfl) (fun _ _ _ h => h) (Or.inl ⟨by kernel_rfl, ?_⟩) hHeld ?_
                    rotate_left
                    · intro w' hSw
                      go_simp
                      try with_reducible rfl
                    try simp only [Act.put, List.getElem_toArray, List.getElem_cons_succ, List.getElem_cons_zero, List.setIfInBounds_toArray, List.set_cons_zero, List.set_cons_succ]
                    refine wpAnyH_take (i := 24) (v := ?_) rfl (by kernel_rfl) (by kernel_rfl) (by kernel_rfl) (fun _ _ _ h => h) (Or.inl ⟨by kernel_rfl, ?_⟩) hHeld ?_
                    rotate_left
                    · intro w' hSw
                      have q8 := (SK.out w' hSw).2.1
                      go_simp
                      try with_reducible rfl
                    try simp only [Act.put, List.getElem_toArray, List.getElem_cons_succ, List.getElem_cons_zero, List.setIfInBounds_toArray, List.set_cons_zero, List.set_cons_succ]
                    refine wpAnyH_take (i := 25) (v := ?_) rfl (by kernel_rfl) (by kernel_rfl) (by kernel_rfl) (fun _ _ _ h => h) (Or.inl ⟨by kernel_rfl, ?_⟩) hHeld ?_
                    rotate_left
                    · intro w' hSw
                      go_simp
                      try with_reducible rfl
                    try simp only [Act.put, List.getElem_toArray, List.getElem_cons_succ, List.getElem_cons_zero, List.setIfInBounds_toArray, List.set_cons_zero, List.set_cons_succ]
                    refine wpAnyH_take (i := 26) (v := ?_) rfl (by kernel_rfl) (by kernel_rfl) (by kernel_rfl) (fun _ _ _ h => h) (Or.inl ⟨by kernel_rfl, ?_⟩) hHeld ?_
                    rotate_left
                    · intro w' hSw
                      go_simp
                      try with_reducible rfl
                    try simp only [Act.put, List.getElem_toArray, List.getElem_cons_succ, List.getElem_cons_zero, List.setIfInBounds_toArray, List.set_cons_zero, List.set_cons_succ]
                    refine wpAnyH_take (i := 27) (v := ?_) rfl (by kernel_rfl) (by kernel_rfl) (by kernel_rfl) (fun _ _ _ h => h) (Or.inl ⟨by kernel_rfl, ?_⟩) hHeld ?_
                    rotate_left
                    · intro w' hSw
                      obtain ⟨q4, q5, q6, q7⟩ := (SK.out w' hSw).2.2.2
                      go_simp
                      try with_reducible rfl
                    try simp only [Act.put, List.getElem_toArray, List.getElem_cons_succ, List.getElem_cons_zero, List.setIfInBounds_toArray, List.set_cons_zero, List.set_cons_succ]
                    refine wpAnyH_take (i := 28) (v := ?_) rfl (by kernel_rfl) (by kernel_rfl) (by kernel_rfl) (fun _ _ _ h => h) (Or.inl ⟨by kernel_rfl, ?_⟩) hHeld ?_
                    rotate_left
                    · intro w' hSw
                      go_simp
                      try with_reducible rfl
                    try simp only [Act.put, List.getElem_toArray, List.getElem_cons_succ, List.getElem_cons_zero, List.setIfInBounds_toArray, List.set_cons_zero, List.set_cons_succ]
                    refine wpAnyH_take (i := 29) (v := ?_) rfl (by kernel_rfl) (by kernel_rfl) (by kernel_rfl) (fun _ _ _ h => h) (Or.inl ⟨by kernel_rfl, ?_⟩) hHeld ?_
                    rotate_left
                    · intro w' hSw
                      go_simp
                      try with_reducible rfl
                    try simp only [Act.put, List.getElem_toArray, List.getElem_cons_succ, List.getElem_cons_zero, List.setIfInBounds_toArray, List.set_cons_zero, List.set_cons_succ]
                    refine wpAnyH_ready (rs := [30]) (by kernel_rfl) (by simp) ?_
                    refine AllReadyH.cons rfl (fun K hK => ?_) AllReadyH.nil
                    rw [if_pos (by kernel_rfl)]
                    go_wp2_with (go_at_call 65; refine (markNode_any _ k i (by omega) (by omega) (by omega) (by omega)).mono ?_; rintro e w130 ⟨rfl, f5⟩)
                    refine hK.out _ _ (hHeld.trans f5) (fun hHeld => ?_)
                    clear hK K f5
                    try simp only [Act.put, List.getElem_toArray, List.getElem_cons_succ, List.getElem_cons_zero, List.setIfInBounds_toArray, List.set_cons_zero, List.set_cons_succ]
                    refine wpAnyH_take (i := 31) (v := .bool true) rfl (by kernel_rfl) (by kernel_rfl) (by kernel_rfl) (fun _ _ _ h => h) (Or.inl ⟨by kernel_rfl, fun w' _ => eqlY _ _ _ _ _ (mIN (k : Int) (i : Int)) rfl rfl rfl w'⟩) hHeld ?_
                    try simp only [Act.put, List.getElem_toArray, List.getElem_cons_succ, List.getElem_cons_zero, List.setIfInBounds_toArray, List.set_cons_zero, List.set_cons_succ]
                    refine wpAnyH_take (i := 32) (v := ?_) rfl (by kernel_rfl) (by kernel_rfl) (by kernel_rfl) (fun _ _ _ h => h) (Or.inl ⟨by kernel_rfl, ?_⟩) hHeld ?_
                    rotate_left
                    · intro w' hSw
                      go_simp
                      try with_reducible rfl
                    try simp only [Act.put, List.getElem_toArray, List.getElem_cons_succ, List.getElem_cons_zero, List.setIfInBounds_toArray, List.set_cons_zero, List.set_cons_succ]
                    refine wpAnyH_take (i := 33) (v := ?_) rfl (by kernel_rfl) (by kernel_rfl) (by kernel_rfl) (fun _ _ _ h => h) (Or.inl ⟨by kernel_rfl, ?_⟩) hHeld ?_
                    rotate_left
                    · intro w' hSw
                      go_simp
                      try with_reducible rfl
                    try simp only [Act.put, List.getElem_toArray, List.getElem_cons_succ, List.getElem_cons_zero, List.setIfInBounds_toArray, List.set_cons_zero, List.set_cons_succ]
                    refine wpAnyH_take (i := 34) (v := ?_) rfl (by kernel_rfl) (by kernel_rfl) (by kernel_rfl) (fun _ _ _ h => h) (Or.inl ⟨by kernel_rfl, ?_⟩) hHeld ?_
                    rotate_left
                    · intro w' hSw
                      go_simp
                      try with_reducible rfl
                    try simp only [Act.put, List.getElem_toArray, List.getElem_cons_succ, List.getElem_cons_zero, List.setIfInBounds_toArray, List.set_cons_zero, List.set_cons_succ]
                    refine wpAnyH_done (by kernel_rfl) ?_ _
                    go_wp2_with go_in
                    have HW := HW0.out
                    subst HW
                    exact ⟨⟨i + 1, by omega, by go_num, G3.out _ (by assumption)⟩, by simp [intOf]; omega⟩
                  · as_aux_lemma =>
                    have hin' : ¬ (i : Int) < (n k : Int) := by omega
                    have hin2 : (n k : Int) ≤ (i : Int) := by omega
                    have SK : Hid (∀ w', Fr [] wr w' → w'.cell? ⟨h, k, none⟩ = some (.slice (some ⟨b, 0, none⟩) (n k + 64) cb) ∧ w'.cell? ⟨t, k, none⟩ = some (.slice (ad k) (n k) (cap k)) ∧ Mark4N w' b k i) := fun w' f => ⟨cell_keepN hcg f, cell_keepN hct f, m6.kept f⟩
                    have fd := (Fr.refl [] wr).drew
                    clear k1 k2 k3 g3 m6
                    unfold Mark4N at SK
                    go_wp2_with go_in
                    clear hcg hct
                    obtain ⟨W0, HW0⟩ : ∃ W0, Hid (W0 = wr) := ⟨_, rfl⟩
                    have gg : Fr [] W0 wr.drew := by rw [HW0.out]; exact fd
                    rw [← HW0.out] at SK G3
                    have kt := SK.out _ gg
                    have hd1 : decide ((i : Int) < (n k : Int)) = false := by simp; omega
                    have hd2 : ((i : Int) < (n k : Int)) = False := by simp; omega
                    clear kt
                    refine wp_region_held_drew (S := fun w' => Fr [] W0 w') (by kernel_rfl) gg (fun hHeld => ?_)
                    refine wpAnyH_take (i := 0) (v := ?_) rfl (by kernel_rfl) (by kernel_rfl) (by kernel_rfl) (fun _ _ _ h => h) (Or.inl ⟨by kernel_rfl, ?_⟩) hHeld ?_
                    rotate_left
                    · intro w' hSw
                      go_simp
                      try with_reducible rfl
                    try simp only [Act.put, List.getElem_toArray, List.getElem_cons_zero, List.setIfInBounds_toArray, List.set_cons_zero, List.set_cons_succ]
                    refine wpAnyH_take (i := 1) (v := ?_) rfl (by kernel_rfl) (by kernel_rfl) (by kernel_rfl) (fun _ _ _ h => h) (Or.inl ⟨by kernel_rfl, ?_⟩) hHeld ?_
                    rotate_left
                    · intro w' hSw
                      go_simp
                      try with_reducible rfl
                    try simp only [Act.put, List.getElem_toArray, List.getElem_cons_succ, List.getElem_cons_zero, List.setIfInBounds_toArray, List.set_cons_zero, List.set_cons_succ]
                    refine wpAnyH_take (i := 2) (v := ?_) rfl (by kernel_rfl) (by kernel_rfl) (by kernel_rfl) (fun _ _ _ h => h) (Or.inl ⟨by kernel_rfl, ?_⟩) hHeld ?_
                    rotate_left
                    · intro w' hSw
                      go_simp
                      try with_reducible rfl
                    try simp only [Act.put, List.getElem_toArray, List.getElem_cons_succ, List.getElem_cons_zero, List.setIfInBounds_toArray, List.set_cons_zero, List.set_cons_succ]
                    refine wpAnyH_take (i := 3) (v := ?_) rfl (by kernel_rfl) (by kernel_rfl) (by kernel_rfl) (fun _ _ _ h => h) (Or.inl ⟨by kernel_rfl, ?_⟩) hHeld ?_
                    rotate_left
                    · intro w' hSw
                      have q3 := (SK.out w' hSw).1
                      go_simp
                      try with_reducible rfl
                    try simp only [Act.put, List.getElem_toArray, List.getElem_cons_succ, List.getElem_cons_zero, List.setIfInBounds_toArray, List.set_cons_zero, List.set_cons_succ]
                    refine wpAnyH_take (i := 4) (v := ?_) rfl (by kernel_rfl) (by kernel_rfl) (by kernel_rfl) (fun _ _ _ h => h) (Or.inl ⟨by kernel_rfl, ?_⟩) hHeld ?_
                    rotate_left
                    · intro w' hSw
                      go_simp
                      try with_reducible rfl
                    try simp only [Act.put, List.getElem_toArray, List.getElem_cons_succ, List.getElem_cons_zero, List.setIfInBounds_toArray, List.set_cons_zero, List.set_cons_succ]
                    refine wpAnyH_take (i := 5) (v := ?_) rfl (by kernel_rfl) (by kernel_rfl) (by kernel_rfl) (fun _ _ _ h => h) (Or.inl ⟨by kernel_rfl, ?_⟩) hHeld ?_
                    rotate_left
                    · intro w' hSw
                      go_simp
                      try with_reducible rfl
                    try simp only [Act.put, List.getElem_toArray, List.getElem_cons_succ, List.getElem_cons_zero, List.setIfInBounds_toArray, List.set_cons_zero, List.set_cons_succ]
                    refine wpAnyH_take (i := 6) (v := ?_) rfl (by kernel_rfl) (by kernel_rfl) (by kernel_rfl) (fun _ _ _ h => h) (Or.inl ⟨by kernel_rfl, ?_⟩) hHeld ?_
                    rotate_left
                    · intro w' hSw
                      obtain ⟨q4, q5, q6, q7⟩ := (SK.out w' hSw).2.2
                      go_simp
                      try with_reducible rfl
                    try simp only [Act.put, List.getElem_toArray, List.getElem_cons_succ, List.getElem_cons_zero, List.setIfInBounds_toArray, List.set_cons_zero, List.set_cons_succ]
                    refine wpAnyH_take (i := 7) (v := ?_) rfl (by kernel_rfl) (by kernel_rfl) (by kernel_rfl) (fun _ _ _ h => h) (Or.inl ⟨by kernel_rfl, ?_⟩) hHeld ?_
                    rotate_left
                    · intro w' hSw
                      go_simp
                      try with_reducible rfl
                    try simp only [Act.put, List.getElem_toArray, List.getElem_cons_succ, List.getElem_cons_zero, List.setIfInBounds_toArray, List.set_cons_zero, List.set_cons_succ]
                    refine wpAnyH_take (i := 8) (v := ?_) rfl (by kernel_rfl) (by kernel_rfl) (by kernel_rfl) (fun _ _ _ h => h) (Or.inl ⟨by kernel_rfl, ?_⟩) hHeld ?_
                    rotate_left
                    · intro w' hSw
                      go_simp
                      try with_reducible rfl
                    try simp only [Act.put, List.getElem_toArray, List.getElem_cons_succ, List.getElem_cons_zero, List.setIfInBounds_toArray, List.set_cons_zero, List.set_cons_succ]
                    refine wpAnyH_ready (rs := [9]) (by kernel_rfl) (by simp) ?_
                    refine AllReadyH.cons rfl (fun K hK => ?_) AllReadyH.nil
                    rw [if_pos (by kernel_rfl)]
                    go_wp2_with (go_at_call 65; refine (markNode_any _ k i (by omega) (by omega) (by omega) (by omega)).mono ?_; rintro e w109 ⟨rfl, f5⟩)
                    refine hK.out _ _ (hHeld.trans f5) (fun hHeld => ?_)
                    clear hK K f5
                    try simp only [Act.put, List.getElem_toArray, List.getElem_cons_succ, List.getElem_cons_zero, List.setIfInBounds_toArray, List.set_cons_zero, List.set_cons_succ]
                    refine wpAnyH_take (i := 10) (v := .bool true) rfl (by kernel_rfl) (by kernel_rfl) (by kernel_rfl) (fun _ _ _ h => h) (Or.inl ⟨by kernel_rfl, fun w' _ => eqlY _ _ _ _ _ (mIN (k : Int) (i : Int)) rfl rfl rfl w'⟩) hHeld ?_
                    try simp only [Act.put, List.getElem_toArray, List.getElem_cons_succ, List.getElem_cons_zero, List.setIfInBounds_toArray, List.set_cons_zero, List.set_cons_succ]
                    refine wpAnyH_take (i := 11) (v := ?_) rfl (by kernel_rfl) (by kernel_rfl) (by kernel_rfl) (fun _ _ _ h => h) (Or.inl ⟨by kernel_rfl, ?_⟩) hHeld ?_
                    rotate_left
                    · intro w' hSw
                      go_simp
                      try with_reducible rfl
                    try simp only [Act.put, List.getElem_toArray, List.getElem_cons_succ, List.getElem_cons_zero, List.setIfInBounds_toArray, List.set_cons_zero, List.set_cons_succ]
                    refine wpAnyH_take (i := 12) (v := ?_) rfl (by kernel_rfl) (by kernel_rfl) (by kernel_rfl) (fun _ _ _ h => h) (Or.inl ⟨by kernel_rfl, ?_⟩) hHeld ?_
                    rotate_left
                    · intro w' hSw
                      go_simp
                      try with_reducible rfl
                    try simp only [Act.put, List.getElem_toArray, List.getElem_cons_succ, List.getElem_cons_zero, List.setIfInBounds_toArray, List.set_cons_zero, List.set_cons_succ]
                    refine wpAnyH_take (i := 13) (v := ?_) rfl (by kernel_rfl) (by kernel_rfl) (by kernel_rfl) (fun _ _ _ h => h) (Or.inl ⟨by kernel_rfl, ?_⟩) hHeld ?_
                    rotate_left
                    · intro w' hSw
                      go_simp
                      try with_reducible rfl
                    try simp only [Act.put, List.getElem_toArray, List.getElem_cons_succ, List.getElem_cons_zero, List.setIfInBounds_toArray, List.set_cons_zero, List.set_cons_succ]
                    refine wpAnyH_take (i := 14) (v := ?_) rfl (by kernel_rfl) (by kernel_rfl) (by kernel_rfl) (fun _ _ _ h => h) (Or.inl ⟨by kernel_rfl, ?_⟩) hHeld ?_
                    rotate_left
                    · intro w' hSw
                      go_simp
                      try with_reducible rfl
                    try simp only [Act.put, List.getElem_toArray, List.getElem_cons_succ, List.getElem_cons_zero, List.setIfInBounds_toArray, List.set_cons_zero, List.set_cons_succ]
                    refine wpAnyH_take (i := 15) (v := ?_) rfl (by kernel_rfl) (by kernel_rfl) (by kernel_rfl) (fun _ _ _ h => h) (Or.inl ⟨by kernel_rfl, ?_⟩) hHeld ?_
                    rotate_left
                    · intro w' hSw
                      go_simp
                      try with_reducible rfl
                    try simp only [Act.put, List.getElem_toArray, List.getElem_cons_succ, List.getElem_cons_zero, List.setIfInBounds_toArray, List.set_cons_zero, List.set_cons_succ]
                    refine wpAnyH_take (i := 16) (v := ?_) rfl (by kernel_rfl) (by kernel_rfl) (by kernel_rfl) (fun _ _ _ h => h) (Or.inl ⟨by kernel_rfl, ?_⟩) hHeld ?_
                    rotate_left
                    · intro w' hSw
                      go_simp
                      try with_reducible rfl
                    try simp only [Act.put, List.getElem_toArray, List.getElem_cons_succ, List.getElem_cons_zero, List.setIfInBounds_toArray, List.set_cons_zero, List.set_cons_succ]
                    refine wpAnyH_take (i := 17) (v := ?_) rfl (by kernel_rfl) (by kernel_rfl) (by kernel_rfl) (fun _ _ _ h => h) (Or.inl ⟨by kernel_rfl, ?_⟩) hHeld ?_
                    rotate_left
                    · intro w' hSw
                      have q8 := (SK.out w' hSw).2.1
                      go_simp
                      try with_reducible rfl
                    try simp only [Act.put, List.getElem_toArray, List.getElem_cons_succ, List.getElem_cons_zero, List.setIfInBounds_toArray, List.set_cons_zero, List.set_cons_succ]
                    refine wpAnyH_take (i := 18) (v := ?_) rfl (by kernel_rfl) (by kernel_rfl) (by kernel_rfl) (fun _ _ _ h => h) (Or.inl ⟨by kernel_rfl, ?_⟩) hHeld ?_
                    rotate_left
                    · intro w' hSw
                      go_simp
                      try with_reducible rfl
                    try simp only [Act.put, List.getElem_toArray, List.getElem_cons_succ, List.getElem_cons_zero, List.setIfInBounds_toArray, List.set_cons_zero, List.set_cons_succ]
                    refine wpAnyH_take (i := 19) (v := ?_) rfl (by kernel_rfl) (by kernel_rfl) (by kernel_rfl) (fun _ _ _ h => h) (Or.inl ⟨by kernel_rfl, ?_⟩) hHeld ?_
                    rotate_left
                    · intro w' hSw
                      go_simp
                      try with_reducible rfl
                    try simp only [Act.put, List.getElem_toArray, List.getElem_cons_succ, List.getElem_cons_zero, List.setIfInBounds_toArray, List.set_cons_zero, List.set_cons_succ]
                    refine wpAnyH_take (i := 20) (v := ?_) rfl (by kernel_rfl) (by kernel_rfl) (by kernel_rfl) (fun _ _ _ h => h) (Or.inl ⟨by kernel_rfl, ?_⟩) hHeld ?_
                    rotate_left
                    · intro w' hSw
                      go_simp
                      try with_reducible rfl
                    try simp only [Act.put, List.getElem_toArray, List.getElem_cons_succ, List.getElem_cons_zero, List.setIfInBounds_toArray, List.set_cons_zero, List.set_cons_succ]
                    refine wpAnyH_take (i := 21) (v := undef) rfl (by kernel_rfl) (by kernel_rfl) (by kernel_rfl) (fun _ _ _ h => h) (Or.inr ⟨by kernel_rfl, rfl⟩) hHeld ?_
                    try simp only [Act.put, List.getElem_toArray, List.getElem_cons_succ, List.getElem_cons_zero, List.setIfInBounds_toArray, List.set_cons_zero, List.set_cons_succ]
                    refine wpAnyH_take (i := 22) (v := undef) rfl (by kernel_rfl) (by kernel_rfl) (by kernel_rfl) (fun _ _ _ h => h) (Or.inr ⟨by kernel_rfl, rfl⟩) hHeld ?_
                    try simp only [Act.put, List.getElem_toArray, List.getElem_cons_succ, List.getElem_cons_zero, List.setIfInBounds_toArray, List.set_cons_zero, List.set_cons_succ]
                    refine wpAnyH_take (i := 23) (v := undef) rfl (by kernel_rfl) (by kernel_rfl) (by kernel_rfl) (fun _ _ _ h => h) (Or.inr ⟨by kernel_rfl, rfl⟩) hHeld ?_
                    try simp only [Act.put, List.getElem_toArray, List.getElem_cons_succ, List.getElem_cons_zero, List.setIfInBounds_toArray, List.set_cons_zero, List.set_cons_succ]
                    refine wpAnyH_take (i := 24) (v := undef) rfl (by kernel_rfl) (by kernel_rfl) (by kernel_rfl) (fun _ _ _ h => h) (Or.inr ⟨by kernel_rfl, rfl⟩) hHeld ?_
                    try simp only [Act.put, List.getElem_toArray, List.getElem_cons_succ, List.getElem_cons_zero, List.setIfInBounds_toArray, List.set_cons_zero, List.set_cons_succ]
                    refine wpAnyH_take (i := 25) (v := undef) rfl (by kernel_rfl) (by kernel_rfl) (by kernel_rfl) (fun _ _ _ h => h) (Or.inr ⟨by kernel_rfl, rfl⟩) hHeld ?_
                    try simp only [Act.put, List.getElem_toArray, List.getElem_cons_succ, List.getElem_cons_zero, List.setIfInBounds_toArray, List.set_cons_zero, List.set_cons_succ]
                    refine wpAnyH_take (i := 26) (v := undef) rfl (by kernel_rfl) (by kernel_rfl) (by kernel_rfl) (fun _ _ _ h => h) (Or.inr ⟨by kernel_rfl, rfl⟩) hHeld ?_
                    try simp only [Act.put, List.getElem_toArray, List.getElem_cons_succ, List.getElem_cons_zero, List.setIfInBounds_toArray, List.set_cons_zero, List.set_cons_succ]
                    refine wpAnyH_take (i := 27) (v := undef) rfl (by kernel_rfl) (by kernel_rfl) (by kernel_rfl) (fun _ _ _ h => h) (Or.inr ⟨by kernel_rfl, rfl⟩) hHeld ?_
                    try simp only [Act.put, List.getElem_toArray, List.getElem_cons_succ, List.getElem_cons_zero, List.setIfInBounds_toArray, List.set_cons_zero, List.set_cons_succ]
                    refine wpAnyH_take (i := 28) (v := undef) rfl (by kernel_rfl) (by kernel_rfl) (by kernel_rfl) (fun _ _ _ h => h) (Or.inr ⟨by kernel_rfl, rfl⟩) hHeld ?_
                    try simp only [Act.put, List.getElem_toArray, List.getElem_cons_succ, List.getElem_cons_zero, List.setIfInBounds_toArray, List.set_cons_zero, List.set_cons_succ]
                    refine wpAnyH_take (i := 29) (v := undef) rfl (by kernel_rfl) (by kernel_rfl) (by kernel_rfl) (fun _ _ _ h => h) (Or.inr ⟨by kernel_rfl, rfl⟩) hHeld ?_
                    try simp only [Act.put, List.getElem_toArray, List.getElem_cons_succ, List.getElem_cons_zero, List.setIfInBounds_toArray, List.set_cons_zero, List.set_cons_succ]
                    refine wpAnyH_take (i := 30) (v := undef) rfl (by kernel_rfl) (by kernel_rfl) (by kernel_rfl) (fun _ _ _ h => h) (Or.inr ⟨by kernel_rfl, rfl⟩) hHeld ?_
                    try simp only [Act.put, List.getElem_toArray, List.getElem_cons_succ, List.getElem_cons_zero, List.setIfInBounds_toArray, List.set_cons_zero, List.set_cons_succ]
                    refine wpAnyH_take (i := 31) (v := undef) rfl (by kernel_rfl) (by kernel_rfl) (by kernel_rfl) (fun _ _ _ h => h) (Or.inr ⟨by kernel_rfl, rfl⟩) hHeld ?_
                    try simp only [Act.put, List.getElem_toArray, List.getElem_cons_succ, List.getElem_cons_zero, List.setIfInBounds_toArray, List.set_cons_zero, List.set_cons_succ]
                    refine wpAnyH_take (i := 32) (v := undef) rfl (by kernel_rfl) (by kernel_rfl) (by kernel_rfl) (fun _ _ _ h => h) (Or.inr ⟨by kernel_rfl, rfl⟩) hHeld ?_
                    try simp only [Act.put, List.getElem_toArray, List.getElem_cons_succ, List.getElem_cons_zero, List.setIfInBounds_toArray, List.set_cons_zero, List.set_cons_succ]
                    refine wpAnyH_take (i := 33) (v := ?_) rfl (by kernel_rfl) (by kernel_rfl) (by kernel_rfl) (fun _ _ _ h => h) (Or.inl ⟨by kernel_rfl, ?_⟩) hHeld ?_
                    rotate_left
                    · intro w' hSw
                      go_simp
                      try with_reducible rfl
                    try simp only [Act.put, List.getElem_toArray, List.getElem_cons_succ, List.getElem_cons_zero, List.setIfInBounds_toArray, List.set_cons_zero, List.set_cons_succ]
                    refine wpAnyH_take (i := 34) (v := ?_) rfl (by kernel_rfl) (by kernel_rfl) (by kernel_rfl) (fun _ _ _ h => h) (Or.inl ⟨by kernel_rfl, ?_⟩) hHeld ?_
                    rotate_left
                    · intro w' hSw
                      go_simp
                      try with_reducible rfl
                    try simp only [Act.put, List.getElem_toArray, List.getElem_cons_succ, List.getElem_cons_zero, List.setIfInBounds_toArray, List.set_cons_zero, List.set_cons_succ]
                    refine wpAnyH_done (by kernel_rfl) ?_ _
                    go_wp2_with go_in
                    have HW := HW0.out
                    subst HW
                    exact ⟨⟨i + 1, by omega, by go_num, G3.out _ (by assumption)⟩, by simp [intOf]; omega⟩
                · obtain rfl : i = n k + 64 := by omega
                  clear k1 k2 k3
                  go_wp2_with go_in
                  exact ⟨⟨k + 1, by omega, by go_num, g3⟩, by simp [intOf]; omega⟩
            · obtain rfl : K = k := by omega
              have g9 := g2.again n
              clear g2 g1
              go_wp2_with go_in
              go_loopw [11] (fun kv wx => ∃ k gv, k ≤ K ∧ kv = .int .i64 (k : Nat) ∧ GrownN w wx G K ad n cap h n k gv) (fun kv _ => K - (intOf kv).toNat)
              case atStart => exact ⟨0, _, Nat.zero_le _, rfl, g9⟩
              case round =>
                clear g9
                obtain ⟨k, gv, hk, rfl, g1⟩ := hrel
                by_cases hlt : k < K
                · have hlt' : (k : Int) < (K : Int) := by omega
                  have hk0 : (0 : Int) ≤ (k : Int) := by omega
                  have hn : (n k : Int) ≤ 1000 := by have := L.long k hlt; omega
                  have hn0 : (0 : Int) ≤ (n k : Int) := by omega
                  obtain ⟨S, hS⟩ : ∃ S, S = wr.heap.size := ⟨_, rfl⟩
                  have HS2 : Hid (∀ j, j < k → ∀ b m c, gv[j]? = some (.slice (some ⟨b, 0, none⟩) m c) → b < S) := fun j hj b m c e => by rw [hS]; exact g1.below j hj b m c e
                  have hSh : h < S := by rw [hS]; exact g1.lt
                  have hSw : S ≤ wr.heap.size := by omega
                  clear hS
                  go_wp2_with (refine wp_makeN rfl _ _ rfl rfl rfl ?_; intro w5 hm0 f5)
                  have g2 := g1.kept f5
                  obtain ⟨mb, HMB⟩ : ∃ mb, Hid (wr.heap.size = mb) := ⟨_, rfl⟩
                  rw [HMB.out] at hm0 ⊢
                  have hmS : S ≤ mb := by rw [← HMB.out]; exact hSw
                  have hS5 : S ≤ w5.heap.size := by have := f5.size; omega
                  clear f5
                  go_loopw [13] (fun iv wx => ∃ i : Nat, i ≤ 64 ∧ iv = .int .i64 i ∧ ManyN wx mb ∧ S ≤ wx.heap.size ∧ GrownN w wx G K ad n cap h n k gv) (fun iv _ => 64 - (intOf iv).toNat)
                  case atStart => exact ⟨0, by omega, rfl, hm0, hS5, g2⟩
                  case round =>
                    obtain ⟨i, hi, rfl, ⟨cur, hcur, hcs, hc1⟩, hSx, g3⟩ := hrel
                    have hi0 : (0 : Int) ≤ (i : Int) := by omega
                    by_cases hil : i < 64
                    · as_aux_lemma =>
                      have hil' : (i : Int) < 64 := by omega
                      have C1 : Hid (∀ v ∈ cur.toList, v.oneCell' = true) := hc1
                      clear hc1
                      go_wp2_with fail
                      refine (markNode_any _ _ _ (by omega) (by omega) (by omega) (by omega)).mono ?_
                      rintro e w4 ⟨rfl, f4⟩
                      have hcur4 := f4.same (by simp) hcur
                      have cellat : ∀ c, c < 4 → ∃ v, w4.cell? ⟨mb, i * 4 + c, none⟩ = some v := fun c hc => by
                        have hc2 := cell_of_row w4 mb (i * 4 + c) _ _ _ hcur4
                        rw [Array.getElem?_eq_getElem (by omega)] at hc2
                        exact ⟨_, hc2⟩
                      obtain ⟨v0, h0⟩ := cellat 0 (by omega)
                      obtain ⟨v1, h1⟩ := cellat 1 (by omega)
                      obtain ⟨v2, h2⟩ := cellat 2 (by omega)
                      obtain ⟨v3, h3⟩ := cellat 3 (by omega)
                      have h0' : w4.cell? ⟨mb, i * 4, none⟩ = some v0 := h0
                      have z0 := frozen_of_row w4 mb (i * 4) _ _ hcur4
                      have z1 := frozen_of_row w4 mb (i * 4 + 1) _ _ hcur4
                      have z2 := frozen_of_row w4 mb (i * 4 + 2) _ _ hcur4
                      have z3 := frozen_of_row w4 mb (i * 4 + 3) _ _ hcur4
                      have g4 := g3.kept f4
                      have HC4 : Hid (w4.heap[mb]? = some (.cells cur 62)) := hcur4
                      have hs4 := f4.size
                      clear cellat h0 hcur4 hcur f4
                      go_wp2_with go_in
                      refine ⟨⟨i + 1, by omega, by go_num, ⟨_, heap_setCell_same _ mb _ _ _ _ (heap_setCell_same _ mb _ _ _ _ (heap_setCell_same _ mb _ _ _ _ (heap_setCell_same w4 mb _ _ _ _ HC4.out))), by simpa using hcs, ?_⟩, by simp [World.setCell]; omega, ?_⟩, by simp [intOf]; omega⟩
                      · intro v hv
                        simp only [Array.toList_setIfInBounds] at hv
                        rcases List.mem_or_eq_of_mem_set hv with hv | hv
                        · rcases List.mem_or_eq_of_mem_set hv with hv | hv
                          · rcases List.mem_or_eq_of_mem_set hv with hv | hv
                            · rcases List.mem_or_eq_of_mem_set hv with hv | hv
                              · exact C1.out v hv
                              · rw [hv]; rfl
                            · rw [hv]; rfl
                          · rw [hv]; rfl
                        · rw [hv]; rfl
                      · exact (((g4.other hmS L HS2.out hSh).other hmS L HS2.out hSh).other hmS L HS2.out hSh).other hmS L HS2.out hSh
                    · obtain rfl : i = 64 := by omega
                      have hct := g3.table L k hlt
                      obtain ⟨vv, hcv⟩ := g3.cellIs k hlt
                      have hfz := g3.frozen k
                      have hcl : cur.toList.length = 64 * 4 := by simpa using hcs
                      have ho3 := g3.own k hlt
                      have HN : Hid (∀ j u, cur.toList[j]? = some u → wr.cell? ⟨mb, j, none⟩ = some u) := fun j u hu => by rw [cell_of_row wr mb j _ _ _ hcur]; simpa using hu
                      have C1 : Hid (∀ v ∈ cur.toList, v.oneCell' = true) := hc1
                      clear hc1 hcs
                      go_wp2_with (refine wp_appNd rfl _ _ rfl (.slice (ad k) (n k) (cap k)) _ _ rfl ho3 mb 64 64 cur.toList hcl rfl HN.out C1.out (by omega) (by omega) ?_; intro g5 cap5 w5 o5 f5 at5 lt5 keep5; have g4 := g3.app L hlt hSh HS2.out (Nat.le_refl _) f5 keep5 (Or.inl rfl); obtain ⟨v8, hc8⟩ := g4.cellIs k hlt; have hf8 := g4.frozen k)
                      have hgh : g5 ≠ h := by
                        rcases at5 with e | e
                        · rintro rfl; exact HO.out k hlt e
                        · omega
                      refine ⟨⟨k + 1, _, by omega, by go_num, g4.store hlt o5 ?_ ?_ HO.out hgh⟩, by simp [intOf]; omega⟩
                      · intro i hi c hc
                        rw [List.getElem?_append_left (by rw [marksN_length]; omega), marksN_at k _ i c hi hc]
                      · rcases at5 with e | e
                        · exact Or.inl e
                        · exact Or.inr ⟨by have := g3.new; omega, hgh⟩
                · obtain rfl : K = k := by omega
                  go_wp2_with go_in
                  go_loopw [14] (fun kv wx => ∃ k, k ≤ K ∧ kv = .int .i64 (k : Nat) ∧ GrownN w wx G K ad n cap h n K gv) (fun kv _ => K - (intOf kv).toNat)
                  case atStart => exact ⟨0, Nat.zero_le _, rfl, g1⟩
                  case round =>
                    obtain ⟨k, hk, rfl, g2⟩ := hrel
                    by_cases hlt : k < K
                    · have hlt' : (k : Int) < (K : Int) := by omega
                      have hk0 : (0 : Int) ≤ (k : Int) := by omega
                      have hn : (n k : Int) ≤ 1000 := by have := L.long k hlt; omega
                      have hn0 : (0 : Int) ≤ (n k : Int) := by omega
                      go_wp2_with go_in
                      go_loopw [15] (fun iv wx => ∃ i, i ≤ n k ∧ iv = .int .i64 (i : Nat) ∧ GrownN w wx G K ad n cap h n K gv) (fun iv _ => n k - (intOf iv).toNat)
                      case atStart => exact ⟨0, Nat.zero_le _, rfl, g2⟩
                      case round =>
                        obtain ⟨i, hi, rfl, g3⟩ := hrel
                        have hct := g3.table L k hlt
                        obtain ⟨b, cb, xs, k1, k2, k3, _⟩ := g3.got k hlt
                        have hcg := g3.cell k
                        rw [k1] at hcg
                        have hi0 : (0 : Int) ≤ (i : Int) := by omega
                        by_cases hil : i < n k
                        · as_aux_lemma =>
                          have hil' : (i : Int) < (n k : Int) := by omega
                          have hil2 : (i : Int) < (n k : Int) + 64 := by omega
                          obtain ⟨_, e6, m6⟩ := mark4_ofN k2 (by omega) (k3 i hil)
                          cases e6
                          have G3 : Hid (∀ w', Fr [] wr w' → GrownN w w' G K ad n cap h n K gv) := fun w' f => g3.kept f
                          obtain ⟨g7, e7, m7⟩ := mark4_ofN (g3.own k hlt) hil (fun c hc => marksN_at k _ i c hil hc)
                          rw [e7] at hct
                          have SK : Hid (∀ w', Fr [] wr w' → w'.cell? ⟨h, k, none⟩ = some (.slice (some ⟨b, 0, none⟩) (n k + 64) cb) ∧ w'.cell? ⟨t, k, none⟩ = some (.slice (some ⟨g7, 0, none⟩) (n k) (cap k)) ∧ Mark4N w' b k i ∧ Mark4N w' g7 k i) := fun w' f => ⟨cell_keepN hcg f, cell_keepN hct f, m6.kept f, m7.kept f⟩
                          have fd := (Fr.refl [] wr).drew
                          clear k1 k2 k3 g3 m6 m7 e7
                          unfold Mark4N at SK
                          go_wp2_with go_in
                          clear hcg hct
                          obtain ⟨W0, HW0⟩ : ∃ W0, Hid (W0 = wr) := ⟨_, rfl⟩
                          have gg : Fr [] W0 wr.drew := by rw [HW0.out]; exact fd
                          rw [← HW0.out] at SK G3
                          have kt := SK.out _ gg
                          clear kt
                          refine wp_region_held_drew (S := fun w' => Fr [] W0 w') (by kernel_rfl) gg (fun hHeld => ?_)
                          refine wpAnyH_take (i := 0) (v := ?_) rfl (by kernel_rfl) (by kernel_rfl) (by kernel_rfl) (fun _ _ _ h => h) (Or.inl ⟨by kernel_rfl, ?_⟩) hHeld ?_
                          rotate_left
                          · intro w' hSw
                            go_simp
                            try with_reducible rfl
                          try simp only [Act.put, List.getElem_toArray, List.getElem_cons_zero, List.setIfInBounds_toArray, List.set_cons_zero, List.set_cons_succ]
                          refine wpAnyH_take (i := 1) (v := ?_) rfl (by kernel_rfl) (by kernel_rfl) (by kernel_rfl) (fun _ _ _ h => h) (Or.inl ⟨by kernel_rfl, ?_⟩) hHeld ?_
                          rotate_left
                          · intro w' hSw
                            go_simp
                            try with_reducible rfl
                          try simp only [Act.put, List.getElem_toArray, List.getElem_cons_succ, List.getElem_cons_zero, List.setIfInBounds_toArray, List.set_cons_zero, List.set_cons_succ]
                          refine wpAnyH_take (i := 2) (v := ?_) rfl (by kernel_rfl) (by kernel_rfl) (by kernel_rfl) (fun _ _ _ h => h) (Or.inl ⟨by kernel_rfl, ?_⟩) hHeld ?_
                          rotate_left
                          · intro w' hSw
                            go_simp
                            try with_reducible rfl
                          try simp only [Act.put, List.getElem_toArray, List.getElem_cons_succ, List.getElem_cons_zero, List.setIfInBounds_toArray, List.set_cons_zero, List.set_cons_succ]
                          refine wpAnyH_take (i := 3) (v := ?_) rfl (by kernel_rfl) (by kernel_rfl) (by kernel_rfl) (fun _ _ _ h => h) (Or.inl ⟨by kernel_rfl, ?_⟩) hHeld ?_
                          rotate_left
                          · intro w' hSw
                            have q8 := (SK.out w' hSw).2.1
                            go_simp
                            try with_reducible rfl
                          try simp only [Act.put, List.getElem_toArray, List.getElem_cons_succ, List.getElem_cons_zero, List.setIfInBounds_toArray, List.set_cons_zero, List.set_cons_succ]
                          refine wpAnyH_take (i := 4) (v := ?_) rfl (by kernel_rfl) (by kernel_rfl) (by kernel_rfl) (fun _ _ _ h => h) (Or.inl ⟨by kernel_rfl, ?_⟩) hHeld ?_
                          rotate_left
                          · intro w' hSw
                            go_simp
                            try with_reducible rfl
                          try simp only [Act.put, List.getElem_toArray, List.getElem_cons_succ, List.getElem_cons_zero, List.setIfInBounds_toArray, List.set_cons_zero, List.set_cons_succ]
                          refine wpAnyH_take (i := 5) (v := ?_) rfl (by kernel_rfl) (by kernel_rfl) (by kernel_rfl) (fun _ _ _ h => h) (Or.inl ⟨by kernel_rfl, ?_⟩) hHeld ?_
                          rotate_left
                          · intro w' hSw
                            go_simp
                            try with_reducible rfl
                          try simp only [Act.put, List.getElem_toArray, List.getElem_cons_succ, List.getElem_cons_zero, List.setIfInBounds_toArray, List.set_cons_zero, List.set_cons_succ]
                          refine wpAnyH_take (i := 6) (v := ?_) rfl (by kernel_rfl) (by kernel_rfl) (by kernel_rfl) (fun _ _ _ h => h) (Or.inl ⟨by kernel_rfl, ?_⟩) hHeld ?_
                          rotate_left
                          · intro w' hSw
                            obtain ⟨q4, q5, q6, q7⟩ := (SK.out w' hSw).2.2.2
                            go_simp
                            try with_reducible rfl
                          try simp only [Act.put, List.getElem_toArray, List.getElem_cons_succ, List.getElem_cons_zero, List.setIfInBounds_toArray, List.set_cons_zero, List.set_cons_succ]
                          refine wpAnyH_take (i := 7) (v := ?_) rfl (by kernel_rfl) (by kernel_rfl) (by kernel_rfl) (fun _ _ _ h => h) (Or.inl ⟨by kernel_rfl, ?_⟩) hHeld ?_
                          rotate_left
                          · intro w' hSw
                            go_simp
                            try with_reducible rfl
                          try simp only [Act.put, List.getElem_toArray, List.getElem_cons_succ, List.getElem_cons_zero, List.setIfInBounds_toArray, List.set_cons_zero, List.set_cons_succ]
                          refine wpAnyH_take (i := 8) (v := ?_) rfl (by kernel_rfl) (by kernel_rfl) (by kernel_rfl) (fun _ _ _ h => h) (Or.inl ⟨by kernel_rfl, ?_⟩) hHeld ?_
                          rotate_left
                          · intro w' hSw
                            go_simp
                            try with_reducible rfl
                          try simp only [Act.put, List.getElem_toArray, List.getElem_cons_succ, List.getElem_cons_zero, List.setIfInBounds_toArray, List.set_cons_zero, List.set_cons_succ]
                          refine wpAnyH_ready (rs := [9]) (by kernel_rfl) (by simp) ?_
                          refine AllReadyH.cons rfl (fun K hK => ?_) AllReadyH.nil
                          rw [if_pos (by kernel_rfl)]
                          go_wp2_with (go_at_call 65; refine (markNode_any _ k i (by omega) (by omega) (by omega) (by omega)).mono ?_; rintro e w109 ⟨rfl, f5⟩)
                          refine hK.out _ _ (hHeld.trans f5) (fun hHeld => ?_)
                          clear hK K f5
                          try simp only [Act.put, List.getElem_toArray, List.getElem_cons_succ, List.getElem_cons_zero, List.setIfInBounds_toArray, List.set_cons_zero, List.set_cons_succ]
                          refine wpAnyH_take (i := 10) (v := .bool true) rfl (by kernel_rfl) (by kernel_rfl) (by kernel_rfl) (fun _ _ _ h => h) (Or.inl ⟨by kernel_rfl, fun w' _ => eqlY _ _ _ _ _ (mIN (k : Int) (i : Int)) rfl rfl rfl w'⟩) hHeld ?_
                          try simp only [Act.put, List.getElem_toArray, List.getElem_cons_succ, List.getElem_cons_zero, List.setIfInBounds_toArray, List.set_cons_zero, List.set_cons_succ]
                          refine wpAnyH_take (i := 11) (v := ?_) rfl (by kernel_rfl) (by kernel_rfl) (by kernel_rfl) (fun _ _ _ h => h) (Or.inl ⟨by kernel_rfl, ?_⟩) hHeld ?_
                          rotate_left
                          · intro w' hSw
                            go_simp
                            try with_reducible rfl
                          try simp only [Act.put, List.getElem_toArray, List.getElem_cons_succ, List.getElem_cons_zero, List.setIfInBounds_toArray, List.set_cons_zero, List.set_cons_succ]
                          refine wpAnyH_take (i := 12) (v := ?_) rfl (by kernel_rfl) (by kernel_rfl) (by kernel_rfl) (fun _ _ _ h => h) (Or.inl ⟨by kernel_rfl, ?_⟩) hHeld ?_
                          rotate_left
                          · intro w' hSw
                            go_simp
                            try with_reducible rfl
                          try simp only [Act.put, List.getElem_toArray, List.getElem_cons_succ, List.getElem_cons_zero, List.setIfInBounds_toArray, List.set_cons_zero, List.set_cons_succ]
                          refine wpAnyH_take (i := 13) (v := ?_) rfl (by kernel_rfl) (by kernel_rfl) (by kernel_rfl) (fun _ _ _ h => h) (Or.inl ⟨by kernel_rfl, ?_⟩) hHeld ?_
                          rotate_left
                          · intro w' hSw
                            go_simp
                            try with_reducible rfl
                          try simp only [Act.put, List.getElem_toArray, List.getElem_cons_succ, List.getElem_cons_zero, List.setIfInBounds_toArray, List.set_cons_zero, List.set_cons_succ]
                          refine wpAnyH_take (i := 14) (v := ?_) rfl (by kernel_rfl) (by kernel_rfl) (by kernel_rfl) (fun _ _ _ h => h) (Or.inl ⟨by kernel_rfl, ?_⟩) hHeld ?_
                          rotate_left
                          · intro w' hSw
                            go_simp
                            try with_reducible rfl
                          try simp only [Act.put, List.getElem_toArray, List.getElem_cons_succ, List.getElem_cons_zero, List.setIfInBounds_toArray, List.set_cons_zero, List.set_cons_succ]
                          refine wpAnyH_take (i := 15) (v := ?_) rfl (by kernel_rfl) (by kernel_rfl) (by kernel_rfl) (fun _ _ _ h => h) (Or.inl ⟨by kernel_rfl, ?_⟩) hHeld ?_
                          rotate_left
                          · intro w' hSw
                            go_simp
                            try with_reducible rfl
                          try simp only [Act.put, List.getElem_toArray, List.getElem_cons_succ, List.getElem_cons_zero, List.setIfInBounds_toArray, List.set_cons_zero, List.set_cons_succ]
                          refine wpAnyH_take (i := 16) (v := ?_) rfl (by kernel_rfl) (by kernel_rfl) (by kernel_rfl) (fun _ _ _ h => h) (Or.inl ⟨by kernel_rfl, ?_⟩) hHeld ?_
                          rotate_left
                          · intro w' hSw
                            have q3 := (SK.out w' hSw).1
                            go_simp
                            try with_reducible rfl
                          try simp only [Act.put, List.getElem_toArray, List.getElem_cons_succ, List.getElem_cons_zero, List.setIfInBounds_toArray, List.set_cons_zero, List.set_cons_succ]
                          refine wpAnyH_take (i := 17) (v := ?_) rfl (by kernel_rfl) (by kernel_rfl) (by kernel_rfl) (fun _ _ _ h => h) (Or.inl ⟨by kernel_rfl, ?_⟩) hHeld ?_
                          rotate_left
                          · intro w' hSw
                            go_simp
                            try with_reducible rfl
                          try simp only [Act.put, List.getElem_toArray, List.getElem_cons_succ, List.getElem_cons_zero, List.setIfInBounds_toArray, List.set_cons_zero, List.set_cons_succ]
                          refine wpAnyH_take (i := 18) (v := ?_) rfl (by kernel_rfl) (by kernel_rfl) (by kernel_rfl) (fun _ _ _ h => h) (Or.inl ⟨by kernel_rfl, ?_⟩) hHeld ?_
                          rotate_left
                          · intro w' hSw
                            go_simp
                            try with_reducible rfl
                          try simp only [Act.put, List.getElem_toArray, List.getElem_cons_succ, List.getElem_cons_zero, List.setIfInBounds_toArray, List.set_cons_zero, List.set_cons_succ]
                          refine wpAnyH_take (i := 19) (v := ?_) rfl (by kernel_rfl) (by kernel_rfl) (by kernel_rfl) (fun _ _ _ h => h) (Or.inl ⟨by kernel_rfl, ?_⟩) hHeld ?_
                          rotate_left
                          · intro w' hSw
                            obtain ⟨q4, q5, q6, q7⟩ := (SK.out w' hSw).2.2.1
                            go_simp
                            try with_reducible rfl
                          try simp only [Act.put, List.getElem_toArray, List.getElem_cons_succ, List.getElem_cons_zero, List.setIfInBounds_toArray, List.set_cons_zero, List.set_cons_succ]
                          refine wpAnyH_take (i := 20) (v := ?_) rfl (by kernel_rfl) (by kernel_rfl) (by kernel_rfl) (fun _ _ _ h => h) (Or.inl ⟨by kernel_rfl, ?_⟩) hHeld ?_
                          rotate_left
                          · intro w' hSw
                            go_simp
                            try with_reducible rfl
                          try simp only [Act.put, List.getElem_toArray, List.getElem_cons_succ, List.getElem_cons_zero, List.setIfInBounds_toArray, List.set_cons_zero, List.set_cons_succ]
                          refine wpAnyH_take (i := 21) (v := ?_) rfl (by kernel_rfl) (by kernel_rfl) (by kernel_rfl) (fun _ _ _ h => h) (Or.inl ⟨by kernel_rfl, ?_⟩) hHeld ?_
                          rotate_left
                          · intro w' hSw
                            go_simp
                            try with_reducible rfl
                          try simp only [Act.put, List.getElem_toArray, List.getElem_cons_succ, List.getElem_cons_zero, List.setIfInBounds_toArray, List.set_cons_zero, List.set_cons_succ]
                          refine wpAnyH_ready (rs := [22]) (by kernel_rfl) (by simp) ?_
                          refine AllReadyH.cons rfl (fun K hK => ?_) AllReadyH.nil
                          rw [if_pos (by kernel_rfl)]
                          go_wp2_with (go_at_call 65; refine (markNode_any _ k i (by omega) (by omega) (by omega) (by omega)).mono ?_; rintro e w122 ⟨rfl, f5⟩)
                          refine hK.out _ _ (hHeld.trans f5) (fun hHeld => ?_)
                          clear hK K f5
                          try simp only [Act.put, List.getElem_toArray, List.getElem_cons_succ, List.getElem_cons_zero, List.setIfInBounds_toArray, List.set_cons_zero, List.set_cons_succ]
                          refine wpAnyH_take (i := 23) (v := .bool true) rfl (by kernel_rfl) (by kernel_rfl) (by kernel_rfl) (fun _ _ _ h => h) (Or.inl ⟨by kernel_rfl, fun w' _ => eqlY _ _ _ _ _ (mIN (k : Int) (i : Int)) rfl rfl rfl w'⟩) hHeld ?_
                          try simp only [Act.put, List.getElem_toArray, List.getElem_cons_succ, List.getElem_cons_zero, List.setIfInBounds_toArray, List.set_cons_zero, List.set_cons_succ]
                          refine wpAnyH_take (i := 24) (v := ?_) rfl (by kernel_rfl) (by kernel_rfl) (by kernel_rfl) (fun _ _ _ h => h) (Or.inl ⟨by kernel_rfl, ?_⟩) hHeld ?_
                          rotate_left
                          · intro w' hSw
                            go_simp
                            try with_reducible rfl
                          try simp only [Act.put, List.getElem_toArray, List.getElem_cons_succ, List.getElem_cons_zero, List.setIfInBounds_toArray, List.set_cons_zero, List.set_cons_succ]
                          refine wpAnyH_take (i := 25) (v := ?_) rfl (by kernel_rfl) (by kernel_rfl) (by kernel_rfl) (fun _ _ _ h => h) (Or.inl ⟨by kernel_rfl, ?_⟩) hHeld ?_
                          rotate_left
                          · intro w' hSw
                            go_simp
                            try with_reducible rfl
                          try simp only [Act.put, List.getElem_toArray, List.getElem_cons_succ, List.getElem_cons_zero, List.setIfInBounds_toArray, List.set_cons_zero, List.set_cons_succ]
                          refine wpAnyH_done (by kernel_rfl) ?_ _
                          go_wp2_with go_in
                          have HW := HW0.out
                          subst HW
                          exact ⟨⟨i + 1, by omega, by go_num, G3.out _ (by assumption)⟩, by simp [intOf]; omega⟩
                        · obtain rfl : i = n k := by omega
                          clear k1 k2 k3
                          go_wp2_with go_in
                          exact ⟨⟨k + 1, by omega, by go_num, g3⟩, by simp [intOf]; omega⟩
                    · obtain rfl : K = k := by omega
                      go_wp2_with go_in
                      go_ret
                      exact ⟨rfl, g2.fr⟩

end Go.Proofs.YtdfgmdddnehocabGreatDoor.Ab
