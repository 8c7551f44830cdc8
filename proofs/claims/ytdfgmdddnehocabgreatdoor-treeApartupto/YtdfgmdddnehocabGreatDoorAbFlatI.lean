/-
  The kit's flatInts: at lists of numbers that lie apart it answers true.
-/
import Derived.Test.YtdfgmdddnehocabGreatDoorAbFlatI0
namespace Go.Proofs.YtdfgmdddnehocabGreatDoor.Ab
open Go.RowKit Go.Maps

/-- ListsI of bytes, in a table: where they lie, and that no two share memory. -/
structure ListsI (w : World) (G : List Nat) (K t : Nat) (ad : Nat → Option Addr) (n cap : Nat → Nat) : Prop where
  few : K ≤ 250
  long : ∀ j, j < K → n j ≤ 100000
  table : ∀ j, j < K → w.cell? ⟨t, j, none⟩ = some (.slice (ad j) (n j) (cap j))
  own : ∀ j, j < K → ∃ xs, xs.length = n j ∧ w.ownsRow 0 3 1 (.slice (ad j) (n j) (cap j)) (n j) xs
  apart : ∀ i j, i < K → j < K → i ≠ j → ∀ g, (Value.slice (ad i) (n i) (cap i)).ownBlock = some g → (Value.slice (ad j) (n j) (cap j)).ownBlock ≠ some g
  within : ∀ j, j < K → ∀ g, (Value.slice (ad j) (n j) (cap j)).ownBlock = some g → g ∈ G
  off : t ∉ G

/-- So far marked. -/
structure MarkedI (w wr : World) (G : List Nat) (K : Nat) (ad : Nat → Option Addr) (n cap : Nat → Nat) (P : Nat → Nat → Prop) : Prop where
  fr : Fr G w wr
  own : ∀ j, j < K → ∃ xs, xs.length = n j ∧ wr.ownsRow 0 3 1 (.slice (ad j) (n j) (cap j)) (n j) xs ∧ ∀ i, i < n j → P j i → xs[i]? = some (mvI j i)

theorem MarkedI.mono {w wr : World} {G : List Nat} {K : Nat} {ad : Nat → Option Addr} {n cap : Nat → Nat} {P R : Nat → Nat → Prop} (h : MarkedI w wr G K ad n cap P) (hr : ∀ j i, j < K → i < n j → R j i → P j i) : MarkedI w wr G K ad n cap R :=
  ⟨h.fr, fun j hj => by obtain ⟨xs, a, b, c⟩ := h.own j hj; exact ⟨xs, a, b, fun i hi hR => c i hi (hr j i hj hi hR)⟩⟩
theorem MarkedI.drew {w wr : World} {G : List Nat} {K : Nat} {ad : Nat → Option Addr} {n cap : Nat → Nat} {P : Nat → Nat → Prop} (h : MarkedI w wr G K ad n cap P) : MarkedI w wr.drew G K ad n cap P := ⟨h.fr.drew, h.own⟩
theorem MarkedI.table {w wr : World} {G : List Nat} {K t : Nat} {ad : Nat → Option Addr} {n cap : Nat → Nat} {P : Nat → Nat → Prop} (h : MarkedI w wr G K ad n cap P) (L : ListsI w G K t ad n cap) (j : Nat) (hj : j < K) : wr.cell? ⟨t, j, none⟩ = some (.slice (ad j) (n j) (cap j)) := by
  have hc := L.table j hj
  exact (World.cell?_of_block (h.fr.block t (block_lt_of_cell hc) L.off)).trans hc
theorem MarkedI.put {w wr : World} {G : List Nat} {K t : Nat} {ad : Nat → Option Addr} {n cap : Nat → Nat} {P R : Nat → Nat → Prop} (h : MarkedI w wr G K ad n cap P) (L : ListsI w G K t ad n cap) (k i g : Nat) (hk : k < K) (hg : ad k = some ⟨g, 0, none⟩)
    (hr : ∀ j s, j < K → s < n j → R j s → P j s ∨ j = k ∧ s = i) : MarkedI w (wr.setCell ⟨g, i, none⟩ (mvI k i)) G K ad n cap R := by
  refine ⟨h.fr.setCell _ _ (fun _ => L.within k hk g (by rw [hg]; rfl)), fun j hj => ?_⟩
  obtain ⟨xs, a, b, c⟩ := h.own j hj
  by_cases e : j = k
  · subst e
    refine ⟨xs.set i (mvI j i), by simpa using a, ?_, ?_⟩
    · rw [hg] at b ⊢
      exact own_setI b i _
    · intro s hs hR
      by_cases e2 : s = i
      · subst e2
        rw [List.getElem?_set_self (by omega)]
      · rw [List.getElem?_set_ne (fun e3 => e2 e3.symm)]
        rcases hr j s hj hs hR with h1 | h1
        · exact c s hs h1
        · exact absurd h1.2 e2
  · refine ⟨xs, a, own_keptI (L := [g]) b ((Fr.refl _ _).setCell _ _ (by simp)) ?_, ?_⟩
    · intro g' hg' hm
      simp at hm
      subst hm
      exact L.apart k j hk hj (fun e2 => e e2.symm) g' (by rw [hg]; rfl) hg'
    · intro s hs hR
      rcases hr j s hj hs hR with h1 | h1
      · exact c s hs h1
      · exact absurd h1.1 e

/-- GrownI: the table h has, for each list so far, one that goes on with 64 numbers more; D: how many of its bytes are marksI. -/
structure GrownI (w wr : World) (G : List Nat) (K : Nat) (ad : Nat → Option Addr) (n cap : Nat → Nat) (h : Nat) (D : Nat → Nat) (k : Nat) (gv : Array Value) : Prop where
  fr : Fr G w wr
  own : ∀ j, j < K → wr.ownsRow 0 3 1 (.slice (ad j) (n j) (cap j)) (n j) (marksI j (n j))
  new : w.heap.size ≤ h
  tab : wr.heap[h]? = some (.cells gv 29)
  size : gv.size = K
  got : ∀ j, j < k → ∃ b c xs, gv[j]? = some (.slice (some ⟨b, 0, none⟩) (n j + 64) c) ∧ wr.ownsRow 0 3 1 (.slice (some ⟨b, 0, none⟩) (n j + 64) c) (n j + 64) xs ∧ (∀ i, i < D j → xs[i]? = some (mvI j i)) ∧ ((Value.slice (ad j) (n j) (cap j)).ownBlock = some b ∨ w.heap.size ≤ b ∧ b ≠ h)

section
variable {w wr : World} {G : List Nat} {K t : Nat} {ad : Nat → Option Addr} {n cap : Nat → Nat} {h : Nat} {D : Nat → Nat} {k : Nat} {gv : Array Value}
theorem GrownI.table (g : GrownI w wr G K ad n cap h D k gv) (L : ListsI w G K t ad n cap) (j : Nat) (hj : j < K) : wr.cell? ⟨t, j, none⟩ = some (.slice (ad j) (n j) (cap j)) := by
  have hc := L.table j hj
  exact (World.cell?_of_block (g.fr.block t (block_lt_of_cell hc) L.off)).trans hc
theorem GrownI.drew (g : GrownI w wr G K ad n cap h D k gv) : GrownI w wr.drew G K ad n cap h D k gv := ⟨g.fr.drew, g.own, g.new, g.tab, g.size, g.got⟩
theorem GrownI.drewN (g : GrownI w wr G K ad n cap h D k gv) (m : Nat) : GrownI w (wr.drewN m) G K ad n cap h D k gv := by
  induction m with
  | zero => exact g
  | succ m ih => exact ih.drew
theorem GrownI.lt (g : GrownI w wr G K ad n cap h D k gv) : h < wr.heap.size := (Array.getElem?_eq_some_iff.1 g.tab).1
theorem GrownI.kept (g : GrownI w wr G K ad n cap h D k gv) {w' : World} (f : Fr [] wr w') : GrownI w w' G K ad n cap h D k gv :=
  ⟨g.fr.then f (fun _ _ e => nomatch e), fun j hj => own_keptI (g.own j hj) f (by simp), g.new, f.same (by simp) g.tab, g.size, fun j hj => by
    obtain ⟨b, c, xs, h1, h2, h3, h4⟩ := g.got j hj
    exact ⟨b, c, xs, h1, own_keptI h2 f (by simp), h3, h4⟩⟩
theorem ListsI.lt (L : ListsI w G K t ad n cap) (j : Nat) (hj : j < K) (g : Nat) (hg : (Value.slice (ad j) (n j) (cap j)).ownBlock = some g) : g < w.heap.size := by
  obtain ⟨xs, _, ho⟩ := L.own j hj
  exact own_ltI ho g hg
/-- A row of list k's grows: it lies in k's own block, or in one that is new since S. -/
theorem GrownI.app (g : GrownI w wr G K ad n cap h D k gv) (L : ListsI w G K t ad n cap) (hkK : k < K) {S : Nat} (hS : h < S) (hS2 : ∀ j, j < k → ∀ b m c, gv[j]? = some (.slice (some ⟨b, 0, none⟩) m c) → b < S) {v : Value} {m : Nat} (hm : n k ≤ m) {w' : World} (f : Fr v.ownBlock.toList wr w')
    (keep : ∀ u p ys, wr.ownsRow 0 3 1 u p ys → (u.ownBlock = v.ownBlock → p ≤ m) → w'.ownsRow 0 3 1 u p ys)
    (hv : v.ownBlock = (Value.slice (ad k) (n k) (cap k)).ownBlock ∨ ∃ b, v.ownBlock = some b ∧ S ≤ b) : GrownI w w' G K ad n cap h D k gv := by
  have hw := g.new
  have hlt := g.lt
  have key : ∀ b, v.ownBlock = some b → b < S → (Value.slice (ad k) (n k) (cap k)).ownBlock = some b := by
    intro b hb hbS
    rcases hv with e | ⟨b', e, hb'⟩
    · rw [← e]; exact hb
    · rw [hb] at e; cases e; omega
  have hne : v.ownBlock ≠ some h := fun e => by
    have := L.lt k hkK h (key h e hS)
    omega
  refine ⟨g.fr.then f ?_, ?_, g.new, f.same ?_ g.tab, g.size, ?_⟩
  · intro i hi e
    simp at e
    by_cases hiS : i < S
    · exact L.within k hkK i (key i e hiS)
    · omega
  · intro j hj
    refine keep _ _ _ (g.own j hj) ?_
    intro e
    by_cases ej : j = k
    · subst ej; exact hm
    · cases hb : (Value.slice (ad j) (n j) (cap j)).ownBlock with
      | none =>
        rcases (g.own j hj).2 with ⟨_, e2⟩ | ⟨b, c, cur, e2, _⟩
        · omega
        · rw [e2] at hb; cases hb
      | some b =>
        rw [hb] at e
        have hbl := L.lt j hj b hb
        exact absurd hb (L.apart k j hkK hj (fun e => ej e.symm) b (key b e.symm (by omega)))
  · intro e
    simp at e
    exact hne e
  · intro j hj
    obtain ⟨b, c, xs, h1, h2, h3, h4⟩ := g.got j hj
    refine ⟨b, c, xs, h1, keep _ _ _ h2 ?_, h3, h4⟩
    intro e
    have hbS := hS2 j hj b _ _ h1
    have e1 := key b e.symm hbS
    rcases h4 with e2 | ⟨e2, _⟩
    · exact absurd e1 (L.apart j k (by omega) hkK (by omega) b e2)
    · have := L.lt k hkK b e1
      omega
/-- A block that is none of these is written. -/
theorem GrownI.other (g : GrownI w wr G K ad n cap h D k gv) {S mb i : Nat} {x : Value} (hm : S ≤ mb) (L : ListsI w G K t ad n cap) (hS2 : ∀ j, j < k → ∀ b m c, gv[j]? = some (.slice (some ⟨b, 0, none⟩) m c) → b < S) (hS : h < S) : GrownI w (wr.setCell ⟨mb, i, none⟩ x) G K ad n cap h D k gv := by
  have f : Fr [mb] wr (wr.setCell ⟨mb, i, none⟩ x) := (Fr.refl _ _).setCell _ _ (by simp)
  have hw := g.new
  refine ⟨g.fr.setCell _ _ (fun e => by have e' : mb < w.heap.size := e; omega), ?_, g.new, f.same (by simp; omega) g.tab, g.size, ?_⟩
  · intro j hj
    exact own_keptI (g.own j hj) f (fun g' e e2 => by simp at e2; subst e2; have := L.lt j hj _ e; omega)
  · intro j hj
    obtain ⟨b, c, xs, h1, h2, h3, h4⟩ := g.got j hj
    refine ⟨b, c, xs, h1, own_keptI h2 f (fun g' e e2 => ?_), h3, h4⟩
    simp at e2
    subst e2
    have : b = g' := by simpa [Value.ownBlock] using e
    have := hS2 j hj b _ _ h1
    omega
theorem GrownI.store (g : GrownI w wr G K ad n cap h D k gv) (hkK : k < K) {b c : Nat} {xs : List Value} (h2 : wr.ownsRow 0 3 1 (.slice (some ⟨b, 0, none⟩) (n k + 64) c) (n k + 64) xs) (h3 : ∀ i, i < D k → xs[i]? = some (mvI k i)) (h4 : (Value.slice (ad k) (n k) (cap k)).ownBlock = some b ∨ w.heap.size ≤ b ∧ b ≠ h)
    (hoff : ∀ j, j < K → (Value.slice (ad j) (n j) (cap j)).ownBlock ≠ some h) (hbh : b ≠ h) :
    GrownI w (wr.setCell ⟨h, k, none⟩ (.slice (some ⟨b, 0, none⟩) (n k + 64) c)) G K ad n cap h D (k + 1) (gv.setIfInBounds k (.slice (some ⟨b, 0, none⟩) (n k + 64) c)) := by
  have f : Fr [h] wr (wr.setCell ⟨h, k, none⟩ (.slice (some ⟨b, 0, none⟩) (n k + 64) c)) := (Fr.refl _ _).setCell _ _ (by simp)
  have hw := g.new
  refine ⟨g.fr.setCell _ _ (fun e => by have e' : h < w.heap.size := e; omega), ?_, g.new, heap_setCell_same wr h k _ _ _ g.tab, by simpa using g.size, ?_⟩
  · intro j hj
    exact own_keptI (g.own j hj) f (fun g' e e2 => by simp at e2; subst e2; exact hoff j hj e)
  · intro j hj
    by_cases e : j = k
    · subst e
      refine ⟨b, c, xs, by rw [Array.getElem?_setIfInBounds_self]; simp [g.size, hkK], own_keptI h2 f ?_, h3, h4⟩
      intro g' e e2
      simp at e2
      subst e2
      exact hbh (by simpa [Value.ownBlock] using e)
    · obtain ⟨b', c', ys, k1, k2, k3, k4⟩ := g.got j (by omega)
      refine ⟨b', c', ys, by rw [Array.getElem?_setIfInBounds_ne (fun e2 => e e2.symm)]; exact k1, own_keptI k2 f ?_, k3, k4⟩
      intro g' e1 e2
      simp at e2
      subst e2
      have : b' = g' := by simpa [Value.ownBlock] using e1
      subst this
      rcases k4 with k4 | k4
      · exact hoff j (by omega) k4
      · exact k4.2 rfl
theorem GrownI.cell (g : GrownI w wr G K ad n cap h D k gv) (j : Nat) : wr.cell? ⟨h, j, none⟩ = gv[j]? := cell_of_row wr h j _ _ _ g.tab
theorem GrownI.cellIs (g : GrownI w wr G K ad n cap h D k gv) (j : Nat) (hj : j < K) : ∃ v, wr.cell? ⟨h, j, none⟩ = some v := ⟨_, by rw [g.cell, Array.getElem?_eq_getElem (by rw [g.size]; exact hj)]⟩
theorem GrownI.frozen (g : GrownI w wr G K ad n cap h D k gv) (j : Nat) : wr.frozen? ⟨h, j, none⟩ = false := frozen_of_row wr h j _ _ g.tab
theorem GrownI.below (g : GrownI w wr G K ad n cap h D k gv) (j : Nat) (hj : j < k) (b m c : Nat) (e : gv[j]? = some (.slice (some ⟨b, 0, none⟩) m c)) : b < wr.heap.size := by
  obtain ⟨b', c', ys, k1, k2, _, _⟩ := g.got j hj
  rw [k1] at e
  cases e
  exact own_ltI k2 _ rfl
theorem GrownI.again (g : GrownI w wr G K ad n cap h D k gv) (E : Nat → Nat) : GrownI w wr G K ad n cap h E 0 gv := ⟨g.fr, g.own, g.new, g.tab, g.size, fun j hj => by omega⟩
theorem MarkedI.grown {P : Nat → Nat → Prop} (m : MarkedI w wr G K ad n cap P) (hP : ∀ j i, j < K → P j i) {w' : World} (f : Fr [] wr w') (hh : w.heap.size ≤ h) (ht : w'.heap[h]? = some (.cells gv 29)) (hs : gv.size = K) : GrownI w w' G K ad n cap h D 0 gv :=
  ⟨m.fr.then f (fun _ _ e => nomatch e), fun j hj => by
    obtain ⟨xs, a, b, c⟩ := m.own j hj
    have := marksI_eq a (fun i hi => c i hi (hP j i hj))
    rw [← this]
    exact own_keptI b f (by simp), hh, ht, hs, fun j hj => by omega⟩
end
theorem mvI_add (k a i : Nat) : Value.int .i64 (mBI (k : Int) ((a : Int) + (i : Int))) = mvI k (a + i) := by unfold mvI; rw [Int.natCast_add]

set_option maxHeartbeats 4000000 in
set_option maxRecDepth 100000 in
theorem flatInts_any (w : World) (G : List Nat) (K t c : Nat) (ad : Nat → Option Addr) (n cap : Nat → Nat) (L : ListsI w G K t ad n cap) :
    Calls Tryz.prog 36 #[.slice (some ⟨t, 0, none⟩) K c] w fun e w' => e = .returned (.bool true) ∧ Fr G w w' := by
  have hK : (K : Int) ≤ 250 := by have := L.few; omega
  have hK0 : (0 : Int) ≤ (K : Int) := by omega
  go_enter Tryz.func36, Tryz.ntmps36
  go_wp2_with go_in
  go_loopw [3] (fun kv wr => ∃ k : Nat, k ≤ K ∧ kv = .int .i64 k ∧ MarkedI w wr G K ad n cap (fun j _ => j < k)) (fun kv _ => K - (intOf kv).toNat)
  case atStart => exact ⟨0, Nat.zero_le _, rfl, Fr.refl _ _, fun j hj => by obtain ⟨xs, a, b⟩ := L.own j hj; exact ⟨xs, a, b, fun _ _ h => by omega⟩⟩
  case round =>
    obtain ⟨k, hk, rfl, M⟩ := hrel
    by_cases hlt : k < K
    · have hlt' : (k : Int) < (K : Int) := by omega
      have hk0 : (0 : Int) ≤ (k : Int) := by omega
      have hn : (n k : Int) ≤ 100000 := by have := L.long k hlt; omega
      have hn0 : (0 : Int) ≤ (n k : Int) := by omega
      go_wp2_with go_in
      go_loopw [4] (fun iv wx => ∃ i : Nat, i ≤ n k ∧ iv = .int .i64 i ∧ MarkedI w wx G K ad n cap (fun j s => j < k ∨ j = k ∧ s < i)) (fun iv _ => n k - (intOf iv).toNat)
      case atStart => exact ⟨0, Nat.zero_le _, rfl, M.mono (fun j i _ _ h => by omega)⟩
      case round =>
        obtain ⟨i, hi, rfl, M2⟩ := hrel
        have hct := M2.table L k hlt
        by_cases hil : i < n k
        · have hil' : (i : Int) < (n k : Int) := by omega
          have hi0 : (0 : Int) ≤ (i : Int) := by omega
          obtain ⟨xs, hxl, hown, _⟩ := M2.own k hlt
          obtain ⟨g, hg, ⟨v, hv, hcell⟩, hfz, _⟩ := own_cellI hown i hil
          rw [hg] at hct
          have hput := M2.put L k i g (R := fun j s => j < k ∨ j = k ∧ s < i + 1) hlt hg (fun j s _ _ h => by omega)
          clear hown hv hxl
          go_wp2_with go_in
          go_region_with (go_at_call 62; refine (markByte_anyI _ k i (by omega) (by omega) (by omega) (by omega)).mono ?_; rintro e w5 ⟨rfl, rfl⟩)
          all_goals
            go_wp2_with go_in
            exact ⟨⟨i + 1, by omega, by go_num, hput.drew⟩, by simp [intOf]; omega⟩
        · obtain rfl : i = n k := by omega
          go_wp2_with go_in
          exact ⟨⟨k + 1, by omega, by go_num, M2.mono (fun j s _ hs h => by by_cases e : j = k; exact Or.inr ⟨e, by rw [← e]; exact hs⟩; exact Or.inl (by omega))⟩, by simp [intOf]; omega⟩
    · obtain rfl : K = k := by omega
      have hsz := M.fr.size
      go_wp2_with (refine wp_makeLI rfl _ _ rfl K rfl rfl (by omega) ?_; intro w5 gv5 hb5 hs5 f5)
      have g0 := M.grown (D := fun j => n j + 64) (h := wr.heap.size) (fun j _ hj => hj) f5 hsz hb5 hs5
      clear hb5 hs5 f5 M
      have hoff : ∀ j, j < K → (Value.slice (ad j) (n j) (cap j)).ownBlock ≠ some wr.heap.size := fun j hj e => by have := L.lt j hj _ e; omega
      have HO : Hid (∀ j, j < K → (Value.slice (ad j) (n j) (cap j)).ownBlock ≠ some wr.heap.size) := hoff
      clear hoff
      generalize wr.heap.size = h at *
      go_loopw [6] (fun kv wx => ∃ k gv, k ≤ K ∧ kv = .int .i64 (k : Nat) ∧ GrownI w wx G K ad n cap h (fun j => n j + 64) k gv) (fun kv _ => K - (intOf kv).toNat)
      case atStart => exact ⟨0, _, Nat.zero_le _, rfl, g0⟩
      case round =>
        obtain ⟨k, gv, hk, rfl, g1⟩ := hrel
        by_cases hlt : k < K
        · have hlt' : (k : Int) < (K : Int) := by omega
          have hk0 : (0 : Int) ≤ (k : Int) := by omega
          have hn : (n k : Int) ≤ 100000 := by have := L.long k hlt; omega
          have hn0 : (0 : Int) ≤ (n k : Int) := by omega
          have hct := g1.table L k hlt
          obtain ⟨S, hS⟩ : ∃ S, S = wr.heap.size := ⟨_, rfl⟩
          have HS2 : Hid (∀ j, j < k → ∀ b m c, gv[j]? = some (.slice (some ⟨b, 0, none⟩) m c) → b < S) := fun j hj b m c e => by rw [hS]; exact g1.below j hj b m c e
          have hSh : h < S := by rw [hS]; exact g1.lt
          have hSw : S ≤ wr.heap.size := by omega
          clear hS
          go_wp2_with go_in
          go_loopw [7, 8] (fun vv iv wx => ∃ (i : Nat) (a' : Option Addr) (c' : Nat), i ≤ 64 ∧ iv = .int .i64 (i : Nat) ∧ vv = .slice a' (n k + i) c' ∧ S ≤ wx.heap.size ∧ GrownI w wx G K ad n cap h (fun j => n j + 64) k gv ∧ wx.ownsRow 0 3 1 (.slice a' (n k + i) c') (n k + i) (marksI k (n k + i)) ∧ ((Value.slice a' (n k + i) c').ownBlock = (Value.slice (ad k) (n k) (cap k)).ownBlock ∨ ∃ b, (Value.slice a' (n k + i) c').ownBlock = some b ∧ S ≤ b)) (fun _ iv _ => 64 - (intOf iv).toNat)
          case atStart => exact ⟨0, _, _, by omega, rfl, rfl, hSw, g1, g1.own k hlt, Or.inl rfl⟩
          case round =>
            obtain ⟨i, a', c', hi, rfl, rfl, hSx, g2, ho2, hb2⟩ := hrel
            have hct := g2.table L k hlt
            have hi0 : (0 : Int) ≤ (i : Int) := by omega
            by_cases hil : i < 64
            · have hil' : (i : Int) < 64 := by omega
              have fA : Fr [] wr (wr.alloc (.cells #[.int .i64 (mBI (k : Int) ((n k : Int) + (i : Int)))] 3)) := (Fr.refl _ _).alloc _
              have oA := own_keptI ho2 fA (by simp)
              have cA : (wr.alloc (.cells #[.int .i64 (mBI (k : Int) ((n k : Int) + (i : Int)))] 3)).cell? ⟨wr.heap.size, 0, none⟩ = some (.int .i64 (mBI (k : Int) ((n k : Int) + (i : Int)))) := by rw [cell_of_row _ _ _ _ _ _ (heap_alloc_new wr _)]; rfl
              have gA := g2.kept fA
              go_wp2_with (first
                | (go_at_call 62; refine (markByte_anyI _ k _ (by omega) (by omega) (by omega) (by omega)).mono ?_; rintro e w5 ⟨rfl, rfl⟩)
                | (refine wp_appI rfl _ _ rfl (.slice a' (n k + i) c') _ _ rfl oA wr.heap.size 1 1 [.int .i64 (mBI (k : Int) ((n k : Int) + (i : Int)))] rfl rfl (by intro j u hu; cases j with | zero => (simp at hu; subst hu; exact cA) | succ j => simp at hu) (by intro u hu; simp at hu; subst hu; rfl) (by omega) (by omega) ?_; intro g5 cap5 w5 o5 f5 at5 lt5 keep5))
              have g3 := gA.app L hlt hSh HS2.out (by omega) f5 keep5 hb2
              have hsz5 := f5.size
              simp at hsz5
              refine ⟨⟨i + 1, _, _, by omega, by go_num, rfl, by omega, g3, ?_, ?_⟩, by simp [intOf]; omega⟩
              · rw [show n k + (i + 1) = n k + i + 1 from rfl, marksI_succ, ← mvI_add]
                exact o5
              · rcases at5 with e | e
                · rcases hb2 with e2 | ⟨b, e2, hb⟩
                  · exact Or.inl (by rw [← e2, e]; rfl)
                  · rw [e2] at e
                    cases e
                    exact Or.inr ⟨g5, rfl, hb⟩
                · exact Or.inr ⟨g5, rfl, by simp at e; omega⟩
            · obtain rfl : i = 64 := by omega
              obtain ⟨g6, rfl, _, _, lt6⟩ := own_cellI ho2 0 (by omega)
              have hw6 : g6 ≠ h := by
                rintro rfl
                rcases hb2 with e | ⟨b, e, hb⟩
                · exact HO.out k hlt e.symm
                · have : g6 = b := by simpa [Value.ownBlock] using e
                  omega
              have g4 := g2.store hlt ho2 (fun i hi => marksI_at k _ i hi) (by
                rcases hb2 with e | ⟨b, e, hb⟩
                · exact Or.inl e.symm
                · have : g6 = b := by simpa [Value.ownBlock] using e
                  exact Or.inr ⟨by have := g2.new; omega, hw6⟩) HO.out hw6
              obtain ⟨vv, hcv⟩ := g2.cellIs k hlt
              have hfz := g2.frozen k
              go_wp2_with go_in
              exact ⟨⟨k + 1, _, by omega, by go_num, g4⟩, by simp [intOf]; omega⟩
        · obtain rfl : K = k := by omega
          go_wp2_with go_in
          clear g0
          go_loopw [9] (fun kv wx => ∃ k, k ≤ K ∧ kv = .int .i64 (k : Nat) ∧ GrownI w wx G K ad n cap h (fun j => n j + 64) K gv) (fun kv _ => K - (intOf kv).toNat)
          case atStart => exact ⟨0, Nat.zero_le _, rfl, g1⟩
          case round =>
            obtain ⟨k, hk, rfl, g2⟩ := hrel
            by_cases hlt : k < K
            · have hlt' : (k : Int) < (K : Int) := by omega
              have hk0 : (0 : Int) ≤ (k : Int) := by omega
              have hn : (n k : Int) ≤ 100000 := by have := L.long k hlt; omega
              have hn0 : (0 : Int) ≤ (n k : Int) := by omega
              go_wp2_with go_in
              go_loopw [10] (fun iv wx => ∃ i, i ≤ n k + 64 ∧ iv = .int .i64 (i : Nat) ∧ GrownI w wx G K ad n cap h (fun j => n j + 64) K gv) (fun iv _ => n k + 64 - (intOf iv).toNat)
              case atStart => exact ⟨0, Nat.zero_le _, rfl, g2⟩
              case round =>
                obtain ⟨i, hi, rfl, g3⟩ := hrel
                have hct := g3.table L k hlt
                obtain ⟨b, cb, xs, k1, k2, k3, _⟩ := g3.got k hlt
                have hcg := g3.cell k
                rw [k1] at hcg
                have hi0 : (0 : Int) ≤ (i : Int) := by omega
                by_cases hil : i < n k + 64
                · have hil' : (i : Int) < (n k : Int) + 64 := by omega
                  obtain ⟨_, e6, ⟨v6, hv6, hc6⟩, _⟩ := own_cellI k2 i hil
                  cases e6
                  rw [k3 i hil] at hv6
                  cases hv6
                  unfold mvI at hc6
                  clear k1 k2 k3
                  by_cases hin : i < n k
                  · have hin' : decide ((i : Int) < (n k : Int)) = true := by simp; omega
                    obtain ⟨g7, e7, ⟨v7, hv7, hc7⟩, _⟩ := own_cellI (g3.own k hlt) i hin
                    rw [marksI_at k _ i hin] at hv7
                    cases hv7
                    unfold mvI at hc7
                    rw [e7] at hct
                    go_wp2_with go_in
                    go_quiet ((go_at_call 62; exact Calls.quiet_of_same (markByte_eqI _ _ _ (by omega) (by omega) (by omega) (by omega))))
                    go_wp2_with go_in
                    exact ⟨⟨i + 1, by omega, by go_num, g3.drewN _⟩, by simp [intOf]; omega⟩
                  · have hin' : decide ((i : Int) < (n k : Int)) = false := by simp; omega
                    go_wp2_with go_in
                    go_quiet ((go_at_call 62; exact Calls.quiet_of_same (markByte_eqI _ _ _ (by omega) (by omega) (by omega) (by omega))))
                    go_wp2_with go_in
                    exact ⟨⟨i + 1, by omega, by go_num, g3.drewN _⟩, by simp [intOf]; omega⟩
                · obtain rfl : i = n k + 64 := by omega
                  clear k1 k2 k3
                  go_wp2_with go_in
                  exact ⟨⟨k + 1, by omega, by go_num, g3⟩, by simp [intOf]; omega⟩
            · obtain rfl : K = k := by omega
              have g9 := g2.again n
              clear g2 g1
              go_wp2_with go_in
              go_loopw [11] (fun kv wx => ∃ k gv, k ≤ K ∧ kv = .int .i64 (k : Nat) ∧ GrownI w wx G K ad n cap h n k gv) (fun kv _ => K - (intOf kv).toNat)
              case atStart => exact ⟨0, _, Nat.zero_le _, rfl, g9⟩
              case round =>
                clear g9
                obtain ⟨k, gv, hk, rfl, g1⟩ := hrel
                by_cases hlt : k < K
                · have hlt' : (k : Int) < (K : Int) := by omega
                  have hk0 : (0 : Int) ≤ (k : Int) := by omega
                  have hn : (n k : Int) ≤ 100000 := by have := L.long k hlt; omega
                  have hn0 : (0 : Int) ≤ (n k : Int) := by omega
                  obtain ⟨S, hS⟩ : ∃ S, S = wr.heap.size := ⟨_, rfl⟩
                  have HS2 : Hid (∀ j, j < k → ∀ b m c, gv[j]? = some (.slice (some ⟨b, 0, none⟩) m c) → b < S) := fun j hj b m c e => by rw [hS]; exact g1.below j hj b m c e
                  have hSh : h < S := by rw [hS]; exact g1.lt
                  have hSw : S ≤ wr.heap.size := by omega
                  clear hS
                  go_wp2_with (refine wp_makeI rfl _ _ rfl rfl rfl ?_; intro w5 mb hmb hbk f5)
                  have g2 := g1.kept f5
                  have hmS : S ≤ mb := by omega
                  have hm0 : ManyI w5 mb := hbk
                  have hS5 : S ≤ w5.heap.size := by have := f5.size; omega
                  clear hmb hbk f5
                  go_loopw [13] (fun iv wx => ∃ i : Nat, i ≤ 64 ∧ iv = .int .i64 i ∧ ManyI wx mb ∧ S ≤ wx.heap.size ∧ GrownI w wx G K ad n cap h n k gv) (fun iv _ => 64 - (intOf iv).toNat)
                  case atStart => exact ⟨0, by omega, rfl, hm0, hS5, g2⟩
                  case round =>
                    obtain ⟨i, hi, rfl, ⟨cur, hcur, hcs, hc1⟩, hSx, g3⟩ := hrel
                    have hi0 : (0 : Int) ≤ (i : Int) := by omega
                    by_cases hil : i < 64
                    · have hil' : (i : Int) < 64 := by omega
                      have hcell := cell_of_row wr mb i _ _ _ hcur
                      rw [Array.getElem?_eq_getElem (by omega)] at hcell
                      have hfz := frozen_of_row wr mb i _ _ hcur
                      have C1 : Hid (∀ v ∈ cur.toList, v.oneCell' = true) := hc1
                      clear hc1
                      go_wp2_with (go_at_call 62; refine (markByte_anyI _ _ _ (by omega) (by omega) (by omega) (by omega)).mono ?_; rintro e w5 ⟨rfl, rfl⟩)
                      refine ⟨⟨i + 1, by omega, by go_num, ⟨_, heap_setCell_same wr mb i _ _ _ hcur, by simpa using hcs, ?_⟩, by simpa [World.setCell] using hSx, ?_⟩, by simp [intOf]; omega⟩
                      · intro v hv
                        rw [Array.toList_setIfInBounds] at hv
                        rcases List.mem_or_eq_of_mem_set hv with h1 | h1
                        · exact C1.out v h1
                        · rw [h1]; rfl
                      · exact g3.other hmS L HS2.out hSh
                    · obtain rfl : i = 64 := by omega
                      have hct := g3.table L k hlt
                      obtain ⟨vv, hcv⟩ := g3.cellIs k hlt
                      have hfz := g3.frozen k
                      have hcl : cur.toList.length = 64 := by simpa using hcs
                      have ho3 := g3.own k hlt
                      have HN : Hid (∀ j u, cur.toList[j]? = some u → wr.cell? ⟨mb, j, none⟩ = some u) := fun j u hu => by rw [cell_of_row wr mb j _ _ _ hcur]; simpa using hu
                      have C1 : Hid (∀ v ∈ cur.toList, v.oneCell' = true) := hc1
                      clear hc1 hcs
                      go_wp2_with (refine wp_appI rfl _ _ rfl (.slice (ad k) (n k) (cap k)) _ _ rfl ho3 mb 64 64 cur.toList hcl rfl HN.out C1.out (by omega) (by omega) ?_; intro g5 cap5 w5 o5 f5 at5 lt5 keep5; have g4 := g3.app L hlt hSh HS2.out (Nat.le_refl _) f5 keep5 (Or.inl rfl); obtain ⟨v8, hc8⟩ := g4.cellIs k hlt; have hf8 := g4.frozen k)
                      have hgh : g5 ≠ h := by
                        rcases at5 with e | e
                        · rintro rfl; exact HO.out k hlt e
                        · omega
                      refine ⟨⟨k + 1, _, by omega, by go_num, g4.store hlt o5 ?_ ?_ HO.out hgh⟩, by simp [intOf]; omega⟩
                      · intro i hi
                        rw [List.getElem?_append_left (by rw [marksI_length]; exact hi), marksI_at k _ i hi]
                      · rcases at5 with e | e
                        · exact Or.inl e
                        · exact Or.inr ⟨by have := g3.new; omega, hgh⟩
                · obtain rfl : K = k := by omega
                  go_wp2_with go_in
                  go_loopw [14] (fun kv wx => ∃ k, k ≤ K ∧ kv = .int .i64 (k : Nat) ∧ GrownI w wx G K ad n cap h n K gv) (fun kv _ => K - (intOf kv).toNat)
                  case atStart => exact ⟨0, Nat.zero_le _, rfl, g1⟩
                  case round =>
                    obtain ⟨k, hk, rfl, g2⟩ := hrel
                    by_cases hlt : k < K
                    · have hlt' : (k : Int) < (K : Int) := by omega
                      have hk0 : (0 : Int) ≤ (k : Int) := by omega
                      have hn : (n k : Int) ≤ 100000 := by have := L.long k hlt; omega
                      have hn0 : (0 : Int) ≤ (n k : Int) := by omega
                      go_wp2_with go_in
                      go_loopw [15] (fun iv wx => ∃ i, i ≤ n k ∧ iv = .int .i64 (i : Nat) ∧ GrownI w wx G K ad n cap h n K gv) (fun iv _ => n k - (intOf iv).toNat)
                      case atStart => exact ⟨0, Nat.zero_le _, rfl, g2⟩
                      case round =>
                        obtain ⟨i, hi, rfl, g3⟩ := hrel
                        have hct := g3.table L k hlt
                        obtain ⟨b, cb, xs, k1, k2, k3, _⟩ := g3.got k hlt
                        have hcg := g3.cell k
                        rw [k1] at hcg
                        have hi0 : (0 : Int) ≤ (i : Int) := by omega
                        by_cases hil : i < n k
                        · have hil' : (i : Int) < (n k : Int) := by omega
                          have hil2 : (i : Int) < (n k : Int) + 64 := by omega
                          obtain ⟨_, e6, ⟨v6, hv6, hc6⟩, _⟩ := own_cellI k2 i (by omega)
                          cases e6
                          rw [k3 i hil] at hv6
                          cases hv6
                          unfold mvI at hc6
                          clear k1 k2 k3
                          obtain ⟨g7, e7, ⟨v7, hv7, hc7⟩, _⟩ := own_cellI (g3.own k hlt) i hil
                          rw [marksI_at k _ i hil] at hv7
                          cases hv7
                          unfold mvI at hc7
                          rw [e7] at hct
                          go_wp2_with go_in
                          go_quiet ((go_at_call 62; exact Calls.quiet_of_same (markByte_eqI _ _ _ (by omega) (by omega) (by omega) (by omega))))
                          go_wp2_with go_in
                          exact ⟨⟨i + 1, by omega, by go_num, g3.drewN _⟩, by simp [intOf]; omega⟩
                        · obtain rfl : i = n k := by omega
                          clear k1 k2 k3
                          go_wp2_with go_in
                          exact ⟨⟨k + 1, by omega, by go_num, g3⟩, by simp [intOf]; omega⟩
                    · obtain rfl : K = k := by omega
                      go_wp2_with go_in
                      go_ret
                      exact ⟨rfl, g2.fr⟩

end Go.Proofs.YtdfgmdddnehocabGreatDoor.Ab
