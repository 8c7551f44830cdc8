/-
  The document's device: a block's place, and Read.
-/
import Derived.Test.YtkenkgfohgmpnaaRef
namespace Go.Proofs.Ytkenkgfohgmpnaa
open Go.RowKit Go.Maps

theorem RDev.form {w : World} {r : Nat} {lv : Value} {N a : Int} {off : Bool} {E : List Ent} (h : RDev w r lv N a off E) : ∃ ad cap, lv = .slice ad E.length cap ∧ (0 < E.length → ∃ g, ad = some ⟨g, 0, none⟩) := by
  obtain ⟨_, hcase⟩ := h.row
  rcases hcase with ⟨hv, h0⟩ | ⟨g, cap, cur, hv, hb, hg, rest⟩
  · exact ⟨none, 0, by rw [hv, h0], fun h => absurd h (by omega)⟩
  · exact ⟨_, cap, hv, fun _ => ⟨g, rfl⟩⟩

theorem RDev.few {w : World} {r : Nat} {lv : Value} {N a : Int} {off : Bool} {E : List Ent} (h : RDev w r lv N a off E) : E.length ≤ 65536 := by
  have := nodup_le 65536 (E.map Ent.n) h.nd (by
    intro x hx
    obtain ⟨e, he, rfl⟩ := List.mem_map.1 hx
    have := h.ents e he
    exact ⟨this.n0, this.n1⟩)
  simpa using this

theorem RDev.at {w : World} {r g cap m : Nat} {N a : Int} {off : Bool} {E : List Ent} (h : RDev w r (.slice (some ⟨g, 0, none⟩) m cap) N a off E) (hm : m = E.length) (i : Nat) (e : Ent) (hi : E[i]? = some e) :
    w.cell? ⟨g, i * 4, none⟩ = some (.int .i64 e.n) ∧ w.cell? ⟨g, i * 4 + 1, none⟩ = some (.slice (some ⟨e.lg, 0, none⟩) 512 e.lc) ∧ w.cell? ⟨g, i * 4 + 2, none⟩ = some (.slice (some ⟨e.sg, 0, none⟩) 512 e.sc) ∧ w.cell? ⟨g, i * 4 + 3, none⟩ = some (.bool e.o) := by
  subst hm
  have hlt := (List.getElem?_eq_some_iff.1 hi).1
  obtain ⟨q0, q1, q2, q3⟩ := ecells_at E i e hi
  refine ⟨?_, ?_, ?_, ?_⟩
  · rw [h.row.cellAt _ (by omega), q0]
  · rw [h.row.cellAt _ (by omega), q1]
  · rw [h.row.cellAt _ (by omega), q2]
  · rw [h.row.cellAt _ (by omega), q3]

set_option maxHeartbeats 1000000 in
theorem rfind {w : World} {r : Nat} {lv : Value} {N a : Int} {off : Bool} {E : List Ent} (h : RDev w r lv N a off E) (k : Int) :
    Calls Try.prog 52 #[.pointer (some ⟨r, 0, none⟩), .int .i64 k] w fun e w' => w = w' ∧ ((∃ i en, E[i]? = some en ∧ en.n = k ∧ e = .returned (.int .i64 (i : Nat))) ∨ ((∀ en ∈ E, en.n ≠ k) ∧ e = .returned (.int .i64 (-1)))) := by
  have hfew : (E.length : Int) ≤ 65536 := by have := h.few; omega
  have c1 := h.cell1
  obtain ⟨ad, cap, rfl, hgd⟩ := h.form
  go_enter Try.func52, Try.ntmps52
  go_wp2
  go_loopw [5] (fun i wr => ∃ j : Nat, j ≤ E.length ∧ i = .int .i64 j ∧ wr = w ∧ ∀ q, q < j → ∀ e, E[q]? = some e → e.n ≠ k) (fun i _ => E.length - (intOf i).toNat)
  case atStart => exact ⟨0, by omega, by trivial, by trivial, fun q hq => absurd hq (by omega)⟩
  case round =>
    obtain ⟨j, hj, rfl, rfl, hno⟩ := hrel
    by_cases hlt : j < E.length
    · have hlt' : (j : Int) < (E.length : Int) := by omega
      have hj0 : (0 : Int) ≤ (j : Int) := by omega
      obtain ⟨g, rfl⟩ := hgd (by omega)
      have hat := List.getElem?_eq_getElem hlt
      obtain ⟨q0, _⟩ := h.at rfl j _ hat
      cases hb : (E[j].n == k)
      · go_wp2
        have hne : E[j].n ≠ k := by simpa using hb
        refine ⟨⟨j + 1, by omega, by go_num, by trivial, fun q hq e he => ?_⟩, by simp [intOf]; omega⟩
        by_cases hqj : q = j
        · subst hqj
          rw [hat] at he
          cases he
          exact hne
        · exact hno q (by omega) e he
      · have heq : E[j].n = k := by simpa using hb
        go_wp2
        go_ret
        exact ⟨rfl, Or.inl ⟨j, _, hat, heq, rfl⟩⟩
    · obtain rfl : j = E.length := by omega
      go_wp2
      go_ret
      refine ⟨rfl, Or.inr ⟨fun en hen => ?_, rfl⟩⟩
      obtain ⟨q, hq, rfl⟩ := List.getElem_of_mem hen
      exact hno q hq _ (List.getElem?_eq_getElem hq)

theorem own_empty (w : World) : Own w (w.alloc (.cells #[] 5)) (.slice (some ⟨w.heap.size, 0, none⟩) 0 0) 0 [] := ⟨World.ownsRow_lit w #[] 0 (Nat.le_refl _) (by unfold maxLen; omega) rfl, (Fr.refl _ _).alloc _⟩

theorem Own.bytes {w0 w : World} {v : Value} {l : List UInt8} (h : Own w0 w v l.length (arr l).toList) (hl : l.length = 512) : ∃ g c, v = .slice (some ⟨g, 0, none⟩) 512 c ∧ BytesAt w (some ⟨g, 0, none⟩) l ∧ w0.heap.size ≤ g ∧ g < w.heap.size := by
  obtain ⟨g, c, rfl, hb, hlt⟩ := h.1.form (by omega)
  refine ⟨g, c, by rw [hl], ?_, hb, hlt⟩
  intro j u hu
  have hj : j < l.length := by
    have := (List.getElem?_eq_some_iff.1 hu).1
    simpa [arr] using this
  exact ⟨g, 0, rfl, by rw [Nat.zero_add, h.1.cellAt j (by omega), hu]⟩

set_option maxHeartbeats 400000 in
theorem rread_err {w : World} {r : Nat} {lv : Value} {N a : Int} {off : Bool} {E : List Ent} (h : RDev w r lv N a off E) (k : Int) (hr : reached N k off ≠ 0) :
    Calls Try.prog 39 #[.pointer (some ⟨r, 0, none⟩), .int .i64 k] w fun e w' => e = .returned (.tuple #[.slice none 0 0, .int .i64 (reached N k off)]) ∧ w = w' := by
  have c0 := h.cell0
  have c3 := h.cell3
  cases off
  · by_cases h0 : k < 0
    · rw [show reached N k false = 6 from by simp [reached, h0]]
      clear hr
      go_enter Try.func39, Try.ntmps39
      go_wp2
      go_ret2
      exact ⟨rfl, rfl⟩
    · have h1 : N ≤ k := by
        by_cases h1 : N ≤ k
        · exact h1
        · exact absurd (by simp [reached, h0, h1]) hr
      rw [show reached N k false = 6 from by simp [reached, h1]]
      clear hr
      go_enter Try.func39, Try.ntmps39
      go_wp2
      go_ret2
      exact ⟨rfl, rfl⟩
  · rw [show reached N k true = 8 from rfl]
    clear hr
    go_enter Try.func39, Try.ntmps39
    go_wp2
    go_ret2
    exact ⟨rfl, rfl⟩

theorem rfind_at {w : World} {r : Nat} {lv : Value} {N a : Int} {off : Bool} {E : List Ent} (h : RDev w r lv N a off E) (i : Nat) (en : Ent) (hi : E[i]? = some en) :
    Calls Try.prog 52 #[.pointer (some ⟨r, 0, none⟩), .int .i64 en.n] w fun e w' => w = w' ∧ e = .returned (.int .i64 (i : Nat)) := by
  refine (rfind h en.n).mono ?_
  rintro e w1 ⟨rfl, ⟨i', en', hi', hen, rfl⟩ | ⟨hno, rfl⟩⟩
  · have hlt := (List.getElem?_eq_some_iff.1 hi').1
    have := (List.getElem?_inj (i := i') (j := i) (by simpa using hlt) h.nd).1 (by simp [hi, hi', hen])
    subst this
    exact ⟨rfl, rfl⟩
  · exact absurd rfl (hno en (List.mem_of_getElem? hi))
theorem rfind_no {w : World} {r : Nat} {lv : Value} {N a : Int} {off : Bool} {E : List Ent} (h : RDev w r lv N a off E) (k : Int) (hno : ∀ en ∈ E, en.n ≠ k) :
    Calls Try.prog 52 #[.pointer (some ⟨r, 0, none⟩), .int .i64 k] w fun e w' => w = w' ∧ e = .returned (.int .i64 (-1)) := by
  refine (rfind h k).mono ?_
  rintro e w1 ⟨rfl, ⟨i', en', hi', hen, rfl⟩ | ⟨hno, rfl⟩⟩
  · exact absurd hen (hno en' (List.mem_of_getElem? hi'))
  · exact ⟨rfl, rfl⟩

set_option maxHeartbeats 1000000 in
set_option maxRecDepth 100000 in
theorem rread_no {w : World} {r : Nat} {lv : Value} {N a : Int} {E : List Ent} (h : RDev w r lv N a false E) (k : Int) (h0 : 0 ≤ k) (h1 : k < N) (hno : ∀ en ∈ E, en.n ≠ k) :
    Calls Try.prog 39 #[.pointer (some ⟨r, 0, none⟩), .int .i64 k] w fun e w' => ∃ g c, e = .returned (.tuple #[.slice (some ⟨g, 0, none⟩) 512 c, .int .i64 0]) ∧ BytesAt w' (some ⟨g, 0, none⟩) zeros ∧ Fr [] w w' := by
  have c0 := h.cell0
  have c3 := h.cell3
  have n0 : ¬ k < 0 := by omega
  have n1 : ¬ N ≤ k := by omega
  go_enter Try.func39, Try.ntmps39
  go_wp2_with (first
    | (go_at_call 52; refine (rfind_no h k hno).mono ?_; rintro e w1 ⟨rfl, rfl⟩)
    | (refine wp_make512 rfl rfl ?_; intro w3 b3 f3 s3)
    | go_in)
  go_ret2
  exact ⟨_, _, rfl, fun j v hv => ⟨_, 0, rfl, b3.src j v hv⟩, f3⟩

set_option maxHeartbeats 1000000 in
set_option maxRecDepth 100000 in
theorem rread_at {w : World} {r : Nat} {lv : Value} {N a : Int} {E : List Ent} (h : RDev w r lv N a false E) (i : Nat) (en : Ent) (hi : E[i]? = some en) (h1 : en.n < N) :
    Calls Try.prog 39 #[.pointer (some ⟨r, 0, none⟩), .int .i64 en.n] w fun e w' => ∃ g c, e = .returned (.tuple #[.slice (some ⟨g, 0, none⟩) 512 c, .int .i64 0]) ∧ BytesAt w' (some ⟨g, 0, none⟩) en.l ∧ Fr [] w w' := by
  have c0 := h.cell0
  have c1 := h.cell1
  have c3 := h.cell3
  have hilt := (List.getElem?_eq_some_iff.1 hi).1
  have hfew : (E.length : Int) ≤ 65536 := by have := h.few; omega
  have ok := h.ents en (List.mem_of_getElem? hi)
  have hi0 : (0 : Int) ≤ (i : Int) := by omega
  have hi1 : (i : Int) < (E.length : Int) := by omega
  have hin : ¬ (i : Int) < 0 := by omega
  have h0 := ok.n0
  have n0 : ¬ en.n < 0 := by omega
  have n1 : ¬ N ≤ en.n := by omega
  obtain ⟨ad, cap, hlv, hgd⟩ := h.form
  obtain ⟨g, rfl⟩ := hgd (by omega)
  subst hlv
  obtain ⟨q0, q1, _⟩ := h.at rfl i en hi
  have c1' : (w.alloc (.cells #[] 5)).cell? ⟨r, 1, none⟩ = some (.slice (some ⟨g, 0, none⟩) E.length cap) := (World.cell?_of_block (heap_alloc_old _ _ _ (block_lt_of_cell c1))).trans c1
  have q1' : (w.alloc (.cells #[] 5)).cell? ⟨g, i * 4 + 1, none⟩ = some (.slice (some ⟨en.lg, 0, none⟩) 512 en.lc) := (World.cell?_of_block (heap_alloc_old _ _ _ (block_lt_of_cell q1))).trans q1
  go_enter Try.func39, Try.ntmps39
  go_wp2_with (first
    | (go_at_call 52; refine (rfind_at h i en hi).mono ?_; rintro e w1 ⟨rfl, rfl⟩)
    | (refine wp_app rfl _ _ rfl w _ 0 [] rfl (own_empty w) _ 512 _ en.l rfl ok.l5 (ok.lb.kept ((Fr.refl [] w).alloc _) (by simp)) (by omega) (fun _ => ⟨_, rfl⟩) ?_; intro v2 w2 o2)
    | go_in)
  go_ret2
  rw [Nat.zero_add, List.nil_append, ← ok.l5] at o2
  obtain ⟨g2, c2, rfl, hb, _, _⟩ := o2.bytes ok.l5
  exact ⟨_, _, rfl, hb, o2.2⟩

end Go.Proofs.Ytkenkgfohgmpnaa
