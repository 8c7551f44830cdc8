/-
  The document's own device (the reference) in memory, and its small functions.
-/
import Derived.Test.YtkenkgfohgmpnaaKeptF
namespace Go.Proofs.Ytkenkgfohgmpnaa
open Go.RowKit Go.Maps

/-- A block that was written: its number, its latest and its safe bytes (with where they lie), whether it is open. -/
structure Ent where
  n : Int
  lg : Nat
  lc : Nat
  l : List UInt8
  sg : Nat
  sc : Nat
  s : List UInt8
  o : Bool

def ecell (e : Ent) : List Value := [.int .i64 e.n, .slice (some ⟨e.lg, 0, none⟩) 512 e.lc, .slice (some ⟨e.sg, 0, none⟩) 512 e.sc, .bool e.o]
def ecells (E : List Ent) : List Value := E.flatMap ecell

theorem ecells_length (E : List Ent) : (ecells E).length = E.length * 4 := by
  unfold ecells
  induction E with
  | nil => rfl
  | cons f F ih => simp [ih, ecell]; omega
theorem ecells_append (E F : List Ent) : ecells (E ++ F) = ecells E ++ ecells F := by simp [ecells]
theorem ecells_at : ∀ (E : List Ent) (i : Nat) (e : Ent), E[i]? = some e →
    (ecells E)[i * 4]? = some (.int .i64 e.n) ∧ (ecells E)[i * 4 + 1]? = some (.slice (some ⟨e.lg, 0, none⟩) 512 e.lc) ∧ (ecells E)[i * 4 + 2]? = some (.slice (some ⟨e.sg, 0, none⟩) 512 e.sc) ∧ (ecells E)[i * 4 + 3]? = some (.bool e.o)
  | [], i, e, h => by simp at h
  | g :: E, 0, e, h => by simp at h; subst h; simp [ecells, ecell]
  | g :: E, i + 1, e, h => by
    have := ecells_at E i e (by simpa using h)
    have e1 : (i + 1) * 4 = i * 4 + 1 + 1 + 1 + 1 := by omega
    rw [e1]
    simpa [ecells, ecell] using this

structure EntOk (w : World) (e : Ent) : Prop where
  l5 : e.l.length = 512
  s5 : e.s.length = 512
  lb : BytesAt w (some ⟨e.lg, 0, none⟩) e.l
  sb : BytesAt w (some ⟨e.sg, 0, none⟩) e.s
  n0 : 0 ≤ e.n
  n1 : e.n < 65536

theorem EntOk.kept {w w' : World} {e : Ent} {L : List Nat} (h : EntOk w e) (k : Fr L w w') (h1 : e.lg ∉ L) (h2 : e.sg ∉ L) : EntOk w' e :=
  { h with lb := h.lb.kept k (fun b off he => by cases he; exact h1), sb := h.sb.kept k (fun b off he => by cases he; exact h2) }

theorem BytesAt.block_lt {w : World} {b off : Nat} {l : List UInt8} (h : BytesAt w (some ⟨b, off, none⟩) l) (hl : 0 < l.length) : b < w.heap.size := by
  obtain ⟨b', off', e, hc⟩ := h 0 (.int .u8 l[0].toNat) (by simp [arr, hl])
  cases e
  exact block_lt_of_cell hc

theorem EntOk.lt {w : World} {e : Ent} (h : EntOk w e) : e.lg < w.heap.size ∧ e.sg < w.heap.size :=
  ⟨h.lb.block_lt (by rw [h.l5]; omega), h.sb.block_lt (by rw [h.s5]; omega)⟩

/-- The document's device in memory. -/
structure RDev (w : World) (r : Nat) (lv : Value) (N a : Int) (off : Bool) (E : List Ent) : Prop where
  cells : w.heap[r]? = some (.cells #[.int .i64 N, lv, .int .i64 a, .bool off] 65)
  row : w.ownsRow 0 76 4 lv E.length (ecells E)
  ents : ∀ e ∈ E, EntOk w e
  apart : ∀ e ∈ E, e.lg ≠ r ∧ e.sg ≠ r ∧ lv.ownBlock ≠ some e.lg ∧ lv.ownBlock ≠ some e.sg
  ne : lv.ownBlock ≠ some r
  nd : (E.map Ent.n).Nodup
  n1 : 1 ≤ N
  n2 : N ≤ 65536
  a1 : 0 ≤ a
  a2 : a < 9223372036854775808

/-- The blocks that it lies in. -/
def rblocks (r : Nat) (lv : Value) (E : List Ent) : List Nat := r :: (lv.ownBlock.toList ++ E.flatMap fun e => [e.lg, e.sg])

theorem ownsRow_kept {w w' : World} {v : Value} {n : Nat} {xs : List Value} {L : List Nat} (h : w.ownsRow 0 76 4 v n xs) (k : Fr L w w') (hv : ∀ g, v.ownBlock = some g → g ∉ L) : w'.ownsRow 0 76 4 v n xs := by
  obtain ⟨h1, h2⟩ := h
  refine ⟨h1, ?_⟩
  rcases h2 with hn | ⟨g, cap, cur, rfl, hb, hg, r⟩
  · exact Or.inl hn
  · exact Or.inr ⟨g, cap, cur, rfl, hb, k.same (hv g rfl) hg, r⟩

theorem RDev.kept {w w' : World} {r : Nat} {lv : Value} {N a : Int} {off : Bool} {E : List Ent} (h : RDev w r lv N a off E) {L : List Nat} (k : Fr L w w') (hL : ∀ x ∈ rblocks r lv E, x ∉ L) : RDev w' r lv N a off E := by
  refine { h with cells := k.same (hL r (by simp [rblocks])) h.cells, row := ownsRow_kept h.row k (fun g hg => hL g (by simp [rblocks, hg])), ents := fun e he => ?_ }
  exact (h.ents e he).kept k (hL _ (by simp only [rblocks, List.mem_cons, List.mem_append, List.mem_flatMap]; exact Or.inr (Or.inr ⟨e, he, by simp⟩))) (hL _ (by simp only [rblocks, List.mem_cons, List.mem_append, List.mem_flatMap]; exact Or.inr (Or.inr ⟨e, he, by simp⟩)))
theorem RDev.lt {w : World} {r : Nat} {lv : Value} {N a : Int} {off : Bool} {E : List Ent} (h : RDev w r lv N a off E) : r < w.heap.size := (Array.getElem?_eq_some_iff.1 h.cells).1
theorem RDev.lts {w : World} {r : Nat} {lv : Value} {N a : Int} {off : Bool} {E : List Ent} (h : RDev w r lv N a off E) : ∀ x ∈ rblocks r lv E, x < w.heap.size := by
  intro x hx
  simp only [rblocks, List.mem_cons, List.mem_append, List.mem_flatMap] at hx
  rcases hx with rfl | hx | ⟨e, he, hx⟩
  · exact h.lt
  · simp at hx
    exact (h.row.lt x hx).2
  · simp at hx
    have := (h.ents e he).lt
    rcases hx with rfl | rfl
    · exact this.1
    · exact this.2
theorem RDev.cell0 {w : World} {r : Nat} {lv : Value} {N a : Int} {off : Bool} {E : List Ent} (h : RDev w r lv N a off E) : w.cell? ⟨r, 0, none⟩ = some (.int .i64 N) := by rw [cell_of_row w r 0 _ _ _ h.cells]; rfl
theorem RDev.cell1 {w : World} {r : Nat} {lv : Value} {N a : Int} {off : Bool} {E : List Ent} (h : RDev w r lv N a off E) : w.cell? ⟨r, 1, none⟩ = some lv := by rw [cell_of_row w r 1 _ _ _ h.cells]; rfl
theorem RDev.cell2 {w : World} {r : Nat} {lv : Value} {N a : Int} {off : Bool} {E : List Ent} (h : RDev w r lv N a off E) : w.cell? ⟨r, 2, none⟩ = some (.int .i64 a) := by rw [cell_of_row w r 2 _ _ _ h.cells]; rfl
theorem RDev.cell3 {w : World} {r : Nat} {lv : Value} {N a : Int} {off : Bool} {E : List Ent} (h : RDev w r lv N a off E) : w.cell? ⟨r, 3, none⟩ = some (.bool off) := by rw [cell_of_row w r 3 _ _ _ h.cells]; rfl
theorem RDev.frozen {w : World} {r : Nat} {lv : Value} {N a : Int} {off : Bool} {E : List Ent} (h : RDev w r lv N a off E) (j : Nat) : w.frozen? ⟨r, j, none⟩ = false := frozen_of_row w r j _ _ h.cells

theorem RDev.set {w : World} {r : Nat} {lv : Value} {N a : Int} {off : Bool} {E : List Ent} (h : RDev w r lv N a off E) (j : Nat) (v : Value) (a' : Int) (off' : Bool) (h0 : 0 ≤ a') (h1 : a' < 9223372036854775808)
    (hc : (#[Value.int .i64 N, lv, .int .i64 a, .bool off] : Array Value).setIfInBounds j v = #[.int .i64 N, lv, .int .i64 a', .bool off']) : RDev (w.setCell ⟨r, j, none⟩ v) r lv N a' off' E := by
  have fr : Fr [r] w (w.setCell ⟨r, j, none⟩ v) := (Fr.refl _ _).setCell _ _ (by simp)
  have hcell := heap_setCell_same w r j _ _ v h.cells
  rw [hc] at hcell
  exact { h with cells := hcell, row := ownsRow_kept h.row fr (fun g hg => by simp; rintro rfl; exact h.ne hg), a1 := h0, a2 := h1, ents := fun e he => (h.ents e he).kept fr (by simp; exact (h.apart e he).1) (by simp; exact (h.apart e he).2.1) }

set_option maxHeartbeats 400000 in
theorem rdown {w : World} {r : Nat} {lv : Value} {N a : Int} {off : Bool} {E : List Ent} (h : RDev w r lv N a off E) : Calls Try.prog 14 #[.pointer (some ⟨r, 0, none⟩)] w fun e w' => e = .returned (.bool off) ∧ w = w' := by
  have c3 := h.cell3
  go_enter Try.func14, Try.ntmps14
  go_wp2
  go_ret
  exact ⟨rfl, rfl⟩
set_option maxHeartbeats 400000 in
theorem rblocks_any {w : World} {r : Nat} {lv : Value} {N a : Int} {off : Bool} {E : List Ent} (h : RDev w r lv N a off E) : Calls Try.prog 43 #[.pointer (some ⟨r, 0, none⟩)] w fun e w' => e = .returned (.int .i64 N) ∧ w = w' := by
  have c0 := h.cell0
  go_enter Try.func43, Try.ntmps43
  go_wp2
  go_ret
  exact ⟨rfl, rfl⟩

set_option maxHeartbeats 400000 in
theorem rnew_no (k : Int) (w : World) (h : k < 1 ∨ 65536 < k) : Calls Try.prog 10 #[.int .i64 k] w fun e w' => e = .returned (.pointer none) ∧ w = w' := by
  by_cases h1 : k < 1
  · clear h
    go_enter Try.func10, Try.ntmps10
    go_wp2
    go_ret
    exact ⟨rfl, rfl⟩
  · have h2 : 65536 < k := by omega
    clear h
    go_enter Try.func10, Try.ntmps10
    go_wp2
    go_ret
    exact ⟨rfl, rfl⟩

set_option maxHeartbeats 400000 in
theorem rnew_dev (k : Int) (w : World) (h1 : 1 ≤ k) (h2 : k ≤ 65536) : Calls Try.prog 10 #[.int .i64 k] w fun e w' =>
    e = .returned (.pointer (some ⟨w.heap.size, 0, none⟩)) ∧ RDev w' w.heap.size (.slice none 0 0) k 0 false [] ∧ Fr [] w w' := by
  have n1 : ¬ k < 1 := by omega
  have n2 : ¬ 65536 < k := by omega
  go_enter Try.func10, Try.ntmps10
  go_wp2
  go_ret
  exact ⟨rfl, ⟨heap_alloc_new _ _, World.ownsRow_nil _ _ _ _, by simp, by simp, by simp [Value.ownBlock], by simp, h1, h2, by omega, by omega⟩, (Fr.refl _ _).alloc _⟩

set_option maxHeartbeats 400000 in
theorem rcrashes {w : World} {r : Nat} {lv : Value} {N a : Int} {E : List Ent} (h : RDev w r lv N a false E) :
    Calls Try.prog 53 #[.pointer (some ⟨r, 0, none⟩)] w fun e w' => e = .returned (.bool (crash a)) ∧ RDev w' r lv N (left a) (crash a) E ∧ Fr [r] w w' := by
  have c2 := h.cell2
  have c3 := h.cell3
  have f2 := h.frozen 2
  have f3 := h.frozen 3
  have a1 := h.a1
  have a2 := h.a2
  by_cases h0 : a = 0
  · subst h0
    rw [show crash 0 = false from rfl, show left 0 = 0 from rfl]
    go_enter Try.func53, Try.ntmps53
    go_wp2
    go_ret
    exact ⟨rfl, h, Fr.refl _ _⟩
  · have hlt : ¬ a < 1 := by omega
    have el : left a = a - 1 := by simp [left, h0]
    have d2 := h.set 2 (.int .i64 (a - 1)) (a - 1) false (by omega) (by omega) rfl
    have fr1 : Fr [r] w (w.setCell ⟨r, 2, none⟩ (.int .i64 (a - 1))) := (Fr.refl _ _).setCell _ _ (by simp)
    rw [el]
    clear el
    by_cases h1 : a = 1
    · subst h1
      rw [show crash 1 = true from rfl]
      have d3 := d2.set 3 (.bool true) (1 - 1) true (by omega) (by omega) rfl
      have fr3 := fr1.setCell ⟨r, 3, none⟩ (.bool true) (by simp)
      clear d2 fr1
      go_enter Try.func53, Try.ntmps53
      go_wp2
      go_ret
      exact ⟨rfl, d3, fr3⟩
    · have hc : crash a = false := by simpa [crash] using h1
      have hb : (a - 1 == 0) = false := by simp; omega
      rw [hc]
      have d3 := d2.set 3 (.bool false) (a - 1) false (by omega) (by omega) rfl
      have fr3 := fr1.setCell ⟨r, 3, none⟩ (.bool false) (by simp)
      clear d2 fr1 hc
      go_enter Try.func53, Try.ntmps53
      go_wp2
      go_ret
      exact ⟨rfl, d3, fr3⟩

set_option maxHeartbeats 400000 in
theorem rarm_down {w : World} {r : Nat} {lv : Value} {N a : Int} {E : List Ent} (h : RDev w r lv N a true E) (k : Int) : Calls Try.prog 38 #[.pointer (some ⟨r, 0, none⟩), .int .i64 k] w fun e w' => e = .returned (.tuple #[]) ∧ w = w' := by
  have c3 := h.cell3
  go_enter Try.func38, Try.ntmps38
  go_wp2
  go_end0
  exact ⟨rfl, rfl⟩
set_option maxHeartbeats 400000 in
theorem rarm {w : World} {r : Nat} {lv : Value} {N a : Int} {E : List Ent} (h : RDev w r lv N a false E) (k : Int) (hk : k < 9223372036854775808) :
    Calls Try.prog 38 #[.pointer (some ⟨r, 0, none⟩), .int .i64 k] w fun e w' => e = .returned (.tuple #[]) ∧ RDev w' r lv N (armed k) false E ∧ Fr [r] w w' := by
  have c2 := h.cell2
  have c3 := h.cell3
  have f2 := h.frozen 2
  by_cases h0 : k < 0
  · rw [show armed k = 0 from by simp [armed, h0]]
    have d2 := h.set 2 (.int .i64 0) 0 false (by omega) (by omega) rfl
    have fr1 : Fr [r] w (w.setCell ⟨r, 2, none⟩ (.int .i64 0)) := (Fr.refl _ _).setCell _ _ (by simp)
    go_enter Try.func38, Try.ntmps38
    go_wp2
    go_end0
    exact ⟨rfl, d2, fr1⟩
  · rw [show armed k = k from by simp [armed, h0]]
    have d2 := h.set 2 (.int .i64 k) k false (by omega) (by omega) rfl
    have fr1 : Fr [r] w (w.setCell ⟨r, 2, none⟩ (.int .i64 k)) := (Fr.refl _ _).setCell _ _ (by simp)
    go_enter Try.func38, Try.ntmps38
    go_wp2
    go_end0
    exact ⟨rfl, d2, fr1⟩

end Go.Proofs.Ytkenkgfohgmpnaa
