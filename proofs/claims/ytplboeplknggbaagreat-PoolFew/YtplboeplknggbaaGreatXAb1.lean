/-
  The kit's ApartBytes: at lists of bytes that lie apart it answers true, and writes these alone.
-/
import Derived.Test.YtplboeplknggbaaGreatAbFlat
import Derived.Deep.AppendLies
import Derived.Laws.MakeOwn
namespace Go.Proofs.YtplboeplknggbaaGreat.Ab
open Go.RowKit

/-- A bag that holds lists of bytes alone. -/
def Bag (w : World) (p : Nat) (v : Value) : Prop := w.heap[p]? = some (.cells #[.slice none 0 0, .slice none 0 0, .slice none 0 0, .slice none 0 0, v, .slice none 0 0, .slice none 0 0, .slice none 0 0, .slice none 0 0, .slice none 0 0, .slice none 0 0, .slice none 0 0, .slice none 0 0, .slice none 0 0, .slice none 0 0, .slice none 0 0, .slice none 0 0, .slice none 0 0] 150)
theorem Bag.kept {w w' : World} {p : Nat} {v : Value} {L : List Nat} (h : Bag w p v) (k : Fr L w w') (hp : p ∉ L) : Bag w' p v := k.same hp h
theorem Bag.c0 {w : World} {p : Nat} {v : Value} (h : Bag w p v) : w.cell? ⟨p, 0, none⟩ = some (.slice none 0 0) := by rw [cell_of_row w p 0 _ _ _ h]; rfl
theorem Bag.c1 {w : World} {p : Nat} {v : Value} (h : Bag w p v) : w.cell? ⟨p, 1, none⟩ = some (.slice none 0 0) := by rw [cell_of_row w p 1 _ _ _ h]; rfl
theorem Bag.c2 {w : World} {p : Nat} {v : Value} (h : Bag w p v) : w.cell? ⟨p, 2, none⟩ = some (.slice none 0 0) := by rw [cell_of_row w p 2 _ _ _ h]; rfl
theorem Bag.c3 {w : World} {p : Nat} {v : Value} (h : Bag w p v) : w.cell? ⟨p, 3, none⟩ = some (.slice none 0 0) := by rw [cell_of_row w p 3 _ _ _ h]; rfl
theorem Bag.c4 {w : World} {p : Nat} {v : Value} (h : Bag w p v) : w.cell? ⟨p, 4, none⟩ = some (v) := by rw [cell_of_row w p 4 _ _ _ h]; rfl
theorem Bag.c5 {w : World} {p : Nat} {v : Value} (h : Bag w p v) : w.cell? ⟨p, 5, none⟩ = some (.slice none 0 0) := by rw [cell_of_row w p 5 _ _ _ h]; rfl
theorem Bag.c6 {w : World} {p : Nat} {v : Value} (h : Bag w p v) : w.cell? ⟨p, 6, none⟩ = some (.slice none 0 0) := by rw [cell_of_row w p 6 _ _ _ h]; rfl
theorem Bag.c7 {w : World} {p : Nat} {v : Value} (h : Bag w p v) : w.cell? ⟨p, 7, none⟩ = some (.slice none 0 0) := by rw [cell_of_row w p 7 _ _ _ h]; rfl
theorem Bag.c8 {w : World} {p : Nat} {v : Value} (h : Bag w p v) : w.cell? ⟨p, 8, none⟩ = some (.slice none 0 0) := by rw [cell_of_row w p 8 _ _ _ h]; rfl
theorem Bag.c9 {w : World} {p : Nat} {v : Value} (h : Bag w p v) : w.cell? ⟨p, 9, none⟩ = some (.slice none 0 0) := by rw [cell_of_row w p 9 _ _ _ h]; rfl
theorem Bag.c10 {w : World} {p : Nat} {v : Value} (h : Bag w p v) : w.cell? ⟨p, 10, none⟩ = some (.slice none 0 0) := by rw [cell_of_row w p 10 _ _ _ h]; rfl
theorem Bag.c11 {w : World} {p : Nat} {v : Value} (h : Bag w p v) : w.cell? ⟨p, 11, none⟩ = some (.slice none 0 0) := by rw [cell_of_row w p 11 _ _ _ h]; rfl
theorem Bag.c12 {w : World} {p : Nat} {v : Value} (h : Bag w p v) : w.cell? ⟨p, 12, none⟩ = some (.slice none 0 0) := by rw [cell_of_row w p 12 _ _ _ h]; rfl
theorem Bag.c13 {w : World} {p : Nat} {v : Value} (h : Bag w p v) : w.cell? ⟨p, 13, none⟩ = some (.slice none 0 0) := by rw [cell_of_row w p 13 _ _ _ h]; rfl
theorem Bag.c14 {w : World} {p : Nat} {v : Value} (h : Bag w p v) : w.cell? ⟨p, 14, none⟩ = some (.slice none 0 0) := by rw [cell_of_row w p 14 _ _ _ h]; rfl
theorem Bag.c15 {w : World} {p : Nat} {v : Value} (h : Bag w p v) : w.cell? ⟨p, 15, none⟩ = some (.slice none 0 0) := by rw [cell_of_row w p 15 _ _ _ h]; rfl
theorem Bag.c16 {w : World} {p : Nat} {v : Value} (h : Bag w p v) : w.cell? ⟨p, 16, none⟩ = some (.slice none 0 0) := by rw [cell_of_row w p 16 _ _ _ h]; rfl
theorem Bag.c17 {w : World} {p : Nat} {v : Value} (h : Bag w p v) : w.cell? ⟨p, 17, none⟩ = some (.slice none 0 0) := by rw [cell_of_row w p 17 _ _ _ h]; rfl

set_option maxHeartbeats 4000000 in
set_option maxRecDepth 100000 in
theorem bag_apart_any (w : World) (p : Nat) (v : Value) (L : List Nat) (bg : Bag w p v) (hp : p ∉ L) (hf : ∀ w', Fr [] w w' → Calls Tryz.prog 101 #[v] w' fun e w'' => e = .returned (.bool true) ∧ Fr L w' w'') :
    Calls Tryz.prog 69 #[.pointer (some ⟨p, 0, none⟩)] w fun e w' => e = .returned (.bool true) ∧ Fr L w w' := by
  have hF : Hid (∀ w', Fr [] w w' → Calls Tryz.prog 101 #[v] w' fun e w'' => e = .returned (.bool true) ∧ Fr L w' w'') := hf
  clear hf
  have gg := Fr.refl [] w
  have d0 := bg.c0
  go_enter Tryz.func69, Tryz.ntmps69
  go_wp2_with (first | (go_at_call 97; refine (flatWords_nil _).mono ?_; rintro e w5 ⟨rfl, f5⟩; replace gg := gg.trans f5; have d1 := (bg.kept gg (by simp)).c1) | (go_at_call 98; refine (flatInts_nil _).mono ?_; rintro e w5 ⟨rfl, f5⟩; replace gg := gg.trans f5; have d2 := (bg.kept gg (by simp)).c2) | (go_at_call 99; refine (flatLongs_nil _).mono ?_; rintro e w5 ⟨rfl, f5⟩; replace gg := gg.trans f5; have d3 := (bg.kept gg (by simp)).c3) | (go_at_call 100; refine (flatTexts_nil _).mono ?_; rintro e w5 ⟨rfl, f5⟩; replace gg := gg.trans f5; have d4 := (bg.kept gg (by simp)).c4) | (go_at_call 101; refine (hF.out _ gg).mono ?_; rintro e w5 ⟨rfl, f5⟩; have gl := (gg.mono (M := L) (fun _ _ h => nomatch h)).trans f5; clear gg; have gg := gl; have d5 := (bg.kept gg hp).c5) | (go_at_call 102; refine (flatNodes_nil _).mono ?_; rintro e w5 ⟨rfl, f5⟩; replace gg := gg.then f5 (fun _ _ h => nomatch h); have d6 := (bg.kept gg hp).c6) | (go_at_call 103; refine (flatFates_nil _).mono ?_; rintro e w5 ⟨rfl, f5⟩; replace gg := gg.then f5 (fun _ _ h => nomatch h); have d7 := (bg.kept gg hp).c7) | (go_at_call 104; refine (flatSpans_nil _).mono ?_; rintro e w5 ⟨rfl, f5⟩; replace gg := gg.then f5 (fun _ _ h => nomatch h); have d8 := (bg.kept gg hp).c8) | (go_at_call 105; refine (flatDirties_nil _).mono ?_; rintro e w5 ⟨rfl, f5⟩; replace gg := gg.then f5 (fun _ _ h => nomatch h); have d9 := (bg.kept gg hp).c9) | (go_at_call 106; refine (flatRecords_nil _).mono ?_; rintro e w5 ⟨rfl, f5⟩; replace gg := gg.then f5 (fun _ _ h => nomatch h); have d10 := (bg.kept gg hp).c10) | (go_at_call 107; refine (flatCells_nil _).mono ?_; rintro e w5 ⟨rfl, f5⟩; replace gg := gg.then f5 (fun _ _ h => nomatch h); have d11 := (bg.kept gg hp).c11) | (go_at_call 108; refine (flatHelds_nil _).mono ?_; rintro e w5 ⟨rfl, f5⟩; replace gg := gg.then f5 (fun _ _ h => nomatch h); have d12 := (bg.kept gg hp).c12) | (go_at_call 109; refine (flatTokens_nil _).mono ?_; rintro e w5 ⟨rfl, f5⟩; replace gg := gg.then f5 (fun _ _ h => nomatch h); have d13 := (bg.kept gg hp).c13) | (go_at_call 110; refine (flatExprs_nil _).mono ?_; rintro e w5 ⟨rfl, f5⟩; replace gg := gg.then f5 (fun _ _ h => nomatch h); have d14 := (bg.kept gg hp).c14) | (go_at_call 111; refine (flatItems_nil _).mono ?_; rintro e w5 ⟨rfl, f5⟩; replace gg := gg.then f5 (fun _ _ h => nomatch h); have d15 := (bg.kept gg hp).c15) | (go_at_call 112; refine (flatShowns_nil _).mono ?_; rintro e w5 ⟨rfl, f5⟩; replace gg := gg.then f5 (fun _ _ h => nomatch h); have d16 := (bg.kept gg hp).c16) | (go_at_call 113; refine (flatParts_nil _).mono ?_; rintro e w5 ⟨rfl, f5⟩; replace gg := gg.then f5 (fun _ _ h => nomatch h); have d17 := (bg.kept gg hp).c17) | (go_at_call 114; refine (flatCommands_nil _).mono ?_; rintro e w5 ⟨rfl, f5⟩; replace gg := gg.then f5 (fun _ _ h => nomatch h)))
  go_ret
  exact ⟨rfl, gg⟩

end Go.Proofs.YtplboeplknggbaaGreat.Ab

namespace Go.Proofs.YtplboeplknggbaaGreat.Ab
open Go.RowKit Go.Maps

theorem infoL : (Tryz.prog.info? 37).map (fun i => (i.zero, i.size, i.bytes)) = some (some (.slice none 0 0), 1, 24) := by kernel_rfl
theorem infoL' : ∃ i, Tryz.prog.info? 37 = some i ∧ i.zero = some (.slice none 0 0) ∧ i.size = 1 ∧ i.bytes = 24 := by
  have h := infoL
  cases hi : Tryz.prog.info? 37 with
  | none => rw [hi] at h; cases h
  | some i =>
    rw [hi] at h
    simp at h
    exact ⟨i, rfl, h.1, h.2.1, h.2.2⟩

/-- A bag that is new since w0, and whose lists of bytes are these. -/
structure BagOwn (w0 w : World) (p : Nat) (v : Value) (n : Nat) (xs : List Value) : Prop where
  bag : Bag w p v
  own : w.ownsRow w0.heap.size 37 1 v n xs
  fr : Fr [] w0 w
  new : w0.heap.size ≤ p
  ne : v.ownBlock ≠ some p

theorem BagOwn.lt {w0 w : World} {p : Nat} {v : Value} {n : Nat} {xs : List Value} (h : BagOwn w0 w p v n xs) : p < w.heap.size := (Array.getElem?_eq_some_iff.1 h.bag).1
theorem Bag.set4 {w : World} {p : Nat} {v : Value} (h : Bag w p v) (u : Value) : Bag (w.setCell ⟨p, 4, none⟩ u) p u := by
  have := heap_setCell_same w p 4 _ _ u h
  unfold Bag
  rw [this]
  simp
theorem own_kept {w w' : World} {B : Nat} {e : TypeId} {v : Value} {n : Nat} {xs : List Value} {L : List Nat} (h : w.ownsRow B e 1 v n xs) (k : Fr L w w') (hL : ∀ g, v.ownBlock = some g → g ∉ L) : w'.ownsRow B e 1 v n xs := by
  obtain ⟨h1, h2⟩ := h
  refine ⟨h1, ?_⟩
  rcases h2 with hn | ⟨g, cap, cur, rfl, hb, hg, r⟩
  · exact Or.inl hn
  · exact Or.inr ⟨g, cap, cur, rfl, hb, k.same (hL g rfl) hg, r⟩
theorem fr_grown {w w' : World} {row : Option Nat} (k : w.grownBy w' row) : Fr row.toList w w' := (Fr.refl _ _).grown k (fun j e _ => by simp [e])

section
variable {ops : Array Oper} {rest : List Oper} {o : Oper} {a : Act} {w : World} {Q : Exit → Act → World → Prop}
theorem wp_appL (hgd : o.guard = none) (s x : Operand) (ho : o.op = .call { callee := .builtin .append, args := #[s, x], argTypes := #[84, 84] }) (B : Nat) (v : Value) (n : Nat) (xs : List Value) (hs : a.eval s = v) (hown : w.ownsRow B 37 1 v n xs) (hB : B ≤ w.heap.size)
    (b : Nat) (sv : Value) (hsv : sv.oneCell' = true) (hx : a.eval x = .slice (some ⟨b, 0, none⟩) 1 1) (hc : w.cell? ⟨b, 0, none⟩ = some sv) (hn : n ≤ 1000000)
    (h : ∀ g cap w', w'.ownsRow B 37 1 (.slice (some ⟨g, 0, none⟩) (n + 1) cap) (n + 1) (xs ++ [sv]) → Fr v.ownBlock.toList w w' → (v.ownBlock = some g ∨ g = w.heap.size) → g < w'.heap.size → wpList Tryz.prog ops Q rest (a.put o.dst (.slice (some ⟨g, 0, none⟩) (n + 1) cap)) w') : wpList Tryz.prog ops Q (o :: rest) a w :=
  wpList_plain hgd fun K hK => by
    obtain ⟨i, hi, hz, hsz, hb⟩ := infoL'
    obtain ⟨g, cap, w', hrun, h2, h3, h5, h6⟩ := run_append_lies (P := Tryz.prog) w 84 o.type B 37 i (.slice none 0 0) 1 24 Tryz.underlying84 hi hz hsz hb rfl (by omega) v n xs hown ⟨b, 0, none⟩ 1 1 [sv] rfl
      (by
        intro j u hu
        cases j with
        | zero => simp at hu; subst hu; rw [Addr.add_mid]; exact hc
        | succ j => simp at hu) (by intro u hu; simp at hu; subst hu; exact hsv) (by omega) (by unfold maxLen; omega) (by omega) hB _ rfl
    unfold Oper.wp execOp
    simp [ho, resolve, invoke, builtin, hs, hx, hrun, Result.andThen]
    exact hK _ _ (h _ _ _ h2 (fr_grown h3) h5 h6)
end

set_option maxHeartbeats 1000000 in
set_option maxRecDepth 100000 in
theorem put_any (w0 w : World) (p : Nat) (v : Value) (ad : Option Addr) (m c : Nat) (n : Nat) (xs : List Value) (h : BagOwn w0 w p v n xs) (hn : n ≤ 1000000) :
    Calls Tryz.prog 68 #[.pointer (some ⟨p, 0, none⟩), .slice ad m c] w fun e w' => e = .returned (.tuple #[]) ∧ ∃ v', BagOwn w0 w' p v' (n + 1) (xs ++ [.slice ad m c]) := by
  have c4 := h.bag.c4
  have hpl := h.lt
  have fA : Fr [] w (w.alloc (.cells #[.slice ad m c] 37)) := (Fr.refl [] w).alloc _
  have bgA := h.bag.kept fA (by simp)
  have owA := own_kept h.own fA (by simp)
  have cA : (w.alloc (.cells #[.slice ad m c] 37)).cell? ⟨w.heap.size, 0, none⟩ = some (.slice ad m c) := by rw [cell_of_row _ _ _ _ _ _ (heap_alloc_new w _)]; rfl
  have hfr := h.fr.size
  have hne := h.ne
  go_enter Tryz.func68, Tryz.ntmps68
  go_wp2_with (refine wp_appL rfl _ _ rfl w0.heap.size v n xs rfl owA (by simp; omega) w.heap.size _ rfl rfl cA hn ?_; intro g cap w5 o5 f5 at5 lt5; have b5 := bgA.kept f5 (by intro e; simp at e; exact hne e); have c5 := b5.c4; have z5 := frozen_of_row w5 p 4 _ _ b5)
  go_end0
  have hnew := h.own
  have hgb : w0.heap.size ≤ g ∧ g ≠ p := by
    rcases at5 with e | e
    · refine ⟨?_, fun e2 => hne (e2 ▸ e)⟩
      rcases h.own.2 with ⟨e1, _⟩ | ⟨g1, _, _, e1, hb, _⟩
      · rw [e1] at e; cases e
      · rw [e1] at e; cases e; exact hb
    · simp at e; omega
  have f6 : Fr [] w0 w5 := (h.fr.trans fA).then f5 (by
    intro i hi e
    simp at e
    rcases h.own.2 with ⟨e1, _⟩ | ⟨g1, _, _, e1, hb, _⟩
    · rw [e1] at e; cases e
    · rw [e1] at e; cases e; have hi' : g1 < w0.heap.size := hi; omega)
  refine ⟨rfl, _, ⟨b5.set4 _, ?_, f6.setCell _ _ (fun e => by have := h.new; have e' : p < w0.heap.size := e; omega), h.new, fun e => hgb.2 (by simpa [Value.ownBlock] using e)⟩⟩
  refine own_kept o5 ((Fr.refl [p] w5).setCell _ _ (by simp)) ?_
  intro g' e
  have : g = g' := by simpa [Value.ownBlock] using e
  subst this
  simpa using hgb.2

end Go.Proofs.YtplboeplknggbaaGreat.Ab

namespace Go.Proofs.YtplboeplknggbaaGreat.Ab
open Go.RowKit Go.Maps

/-! ### marks -/
set_option maxHeartbeats 400000 in
theorem mark_any (w : World) (k i : Int) (hk0 : 0 ≤ k) (hk1 : k ≤ 600) (hi0 : 0 ≤ i) (hi1 : i ≤ 1000000) :
    Calls Tryz.prog 140 #[.int .i64 k, .int .i64 i] w fun e w' => e = .returned (.int .i64 (1000003 * (k + 7) + i)) ∧ w' = w := by
  go_enter Tryz.func140, Tryz.ntmps140
  go_wp2
  go_ret
  exact ⟨rfl, rfl⟩

/-- The mark of a place in a list of bytes. -/
def mB (k i : Int) : Int := IntKind.u64.wrap ((1000003 * (k + 7) + i) * 11400714819323198485) / 72057594037927936 % 256

set_option maxHeartbeats 400000 in
theorem markByte_any (w : World) (k i : Int) (hk0 : 0 ≤ k) (hk1 : k ≤ 600) (hi0 : 0 ≤ i) (hi1 : i ≤ 1000000) :
    Calls Tryz.prog 115 #[.int .i64 k, .int .i64 i] w fun e w' => e = .returned (.int .u8 (mB k i)) ∧ w = w' := by
  go_enter Tryz.func115, Tryz.ntmps115
  go_wp2_with (go_at_call 140; refine (mark_any _ k i hk0 hk1 hi0 hi1).mono ?_; rintro e w ⟨rfl, rfl⟩)
  go_ret
  exact ⟨rfl, rfl⟩

theorem markByte_eq (w : World) (k i : Int) (hk0 : 0 ≤ k) (hk1 : k ≤ 600) (hi0 : 0 ≤ i) (hi1 : i ≤ 1000000) :
    Calls Tryz.prog 115 #[.int .i64 k, .int .i64 i] w fun e w' => e = .returned (.int .u8 (mB k i)) ∧ w' = w :=
  (markByte_any w k i hk0 hk1 hi0 hi1).mono fun _ _ h => ⟨h.1, h.2.symm⟩

def mv (k i : Nat) : Value := .int .u8 (mB (k : Int) (i : Int))
def marks (k m : Nat) : List Value := (List.range m).map (mv k)
theorem marks_length (k m : Nat) : (marks k m).length = m := by simp [marks]
theorem marks_at (k m i : Nat) (h : i < m) : (marks k m)[i]? = some (mv k i) := by simp [marks, h]
theorem marks_succ (k m : Nat) : marks k (m + 1) = marks k m ++ [mv k m] := by simp [marks, List.range_succ]
theorem marks_eq {k m : Nat} {xs : List Value} (hl : xs.length = m) (h : ∀ i, i < m → xs[i]? = some (mv k i)) : xs = marks k m := by
  apply List.ext_getElem?
  intro i
  by_cases hi : i < m
  · rw [h i hi, marks_at k m i hi]
  · rw [List.getElem?_eq_none (by omega), List.getElem?_eq_none (by rw [marks_length]; omega)]

/-! ### rows of bytes that are owned -/
theorem own_cell {w : World} {ad : Option Addr} {n cap : Nat} {xs : List Value} (h : w.ownsRow 0 5 1 (.slice ad n cap) n xs) (i : Nat) (hi : i < n) :
    ∃ g, ad = some ⟨g, 0, none⟩ ∧ (∃ v, xs[i]? = some v ∧ w.cell? ⟨g, i, none⟩ = some v) ∧ w.frozen? ⟨g, i, none⟩ = false ∧ g < w.heap.size := by
  obtain ⟨h1, h2⟩ := h
  rcases h2 with ⟨e, e2⟩ | ⟨g, c, cur, e, _, hg, hnc, _, hcs, ht⟩
  · omega
  · cases e
    refine ⟨g, rfl, ?_, frozen_of_row w g i _ _ hg, (Array.getElem?_eq_some_iff.1 hg).1⟩
    have hx : i < xs.length := by omega
    refine ⟨xs[i], List.getElem?_eq_getElem hx, ?_⟩
    rw [cell_of_row w g i _ _ _ hg, ← List.getElem?_eq_getElem hx, ← ht, List.getElem?_take, if_pos (by omega)]
    simp

theorem own_set {w : World} {g n cap : Nat} {xs : List Value} (h : w.ownsRow 0 5 1 (.slice (some ⟨g, 0, none⟩) n cap) n xs) (i : Nat) (x : Value) :
    (w.setCell ⟨g, i, none⟩ x).ownsRow 0 5 1 (.slice (some ⟨g, 0, none⟩) n cap) n (xs.set i x) := by
  obtain ⟨h1, h2⟩ := h
  rcases h2 with ⟨e, e2⟩ | ⟨g, c, cur, e, hb, hg, hnc, hcm, hcs, ht⟩
  · cases e
  · cases e
    refine ⟨by simpa using h1, Or.inr ⟨g, cap, _, rfl, hb, heap_setCell_same w g i _ _ x hg, hnc, hcm, by simpa using hcs, ?_⟩⟩
    rw [← ht]
    simp only [Array.toList_setIfInBounds, List.take_set]

theorem own_lt {w : World} {v : Value} {n : Nat} {xs : List Value} (h : w.ownsRow 0 5 1 v n xs) (g : Nat) (hg : v.ownBlock = some g) : g < w.heap.size := by
  rcases h.2 with ⟨e, _⟩ | ⟨g', _, cur, e, _, hh, _⟩
  · rw [e] at hg; cases hg
  · rw [e] at hg
    have : g' = g := by simpa [Value.ownBlock] using hg
    subst this
    exact (Array.getElem?_eq_some_iff.1 hh).1

theorem own_drew {w : World} {v : Value} {n : Nat} {xs : List Value} (h : w.ownsRow 0 5 1 v n xs) : w.drew.ownsRow 0 5 1 v n xs := h

/-- append, and what all other rows hold behind it. -/
theorem run_app (w : World) (ty : TypeId) (v : Value) (m : Nat) (xs : List Value) (hown : w.ownsRow 0 5 1 v m xs) (ad : Addr) (k c : Nat) (news : List Value) (hl : news.length = k) (hnews : ∀ j u, news[j]? = some u → w.cell? (ad.add j) = some u) (h1 : ∀ u ∈ news, u.oneCell' = true) (hk : 0 < k) (hm : m + k ≤ 16777216) :
    ∃ g cap w', (Builtin.append_ #[37, 37] ty #[v, .slice (some ad) k c]).run Tryz.prog w = .ok (.slice (some ⟨g, 0, none⟩) (m + k) cap) w' ∧ w'.ownsRow 0 5 1 (.slice (some ⟨g, 0, none⟩) (m + k) cap) (m + k) (xs ++ news) ∧ Fr v.ownBlock.toList w w' ∧ (v.ownBlock = some g ∨ g = w.heap.size) ∧ g < w'.heap.size ∧
      (∀ u p ys, w.ownsRow 0 5 1 u p ys → (u.ownBlock = v.ownBlock → p ≤ m) → w'.ownsRow 0 5 1 u p ys) := by
  obtain ⟨i, hi, hz, hsz, hb⟩ := info5'
  obtain ⟨g, cap, w', hrun, h2, h3, h5, h6⟩ := run_append_lies (P := Tryz.prog) w 37 ty 0 5 i (.int .u8 0) 1 1 Tryz.underlying37 hi hz hsz hb rfl (by omega) v m xs hown ad k c news (by omega) hnews h1 hk (by unfold maxLen; omega) (by omega) (Nat.zero_le _) _ rfl
  refine ⟨g, cap, w', hrun, h2, fr_grown h3, h5, h6, ?_⟩
  intro u p ys hu hle
  rcases hown.2 with ⟨rfl, rfl⟩ | ⟨g0, cap0, cur, rfl, hbg, hg, hnc, hcm, hcs, htake⟩
  · exact own_kept hu (fr_grown h3) (by simp [Value.ownBlock])
  · by_cases hroom : m + k ≤ cap0
    · have hr := run_append_room (P := Tryz.prog) w 37 ty 5 i Tryz.underlying37 hi g0 m cap0 cur hg ad k c news (by rw [hsz]; omega) hnews h1 hroom (by rw [hsz]; omega)
      rw [hr] at hrun
      injection hrun with _ hw
      subst hw
      obtain ⟨u1, u2⟩ := hu
      refine ⟨u1, ?_⟩
      rcases u2 with hn | ⟨gu, capu, curu, rfl, hbu, hgu, hnu, hcu, hsu, htu⟩
      · exact Or.inl hn
      · by_cases e : gu = g0
        · subst e
          have hp := hle rfl
          rw [hg] at hgu
          cases hgu
          refine Or.inr ⟨gu, capu, _, rfl, hbu, setRow_heap w gu _ _ 5 _ hg, hnu, hcu, ?_, ?_⟩
          · simp [hsz]; omega
          · rw [← htu]
            simp only [List.append_assoc]
            rw [List.take_append_of_le_length (by simp [hsz]; omega), List.take_take]
            rw [hsz, Nat.mul_one, Nat.mul_one, Nat.min_eq_left hp]
        · exact Or.inr ⟨gu, capu, curu, rfl, hbu, by rw [setRow_other w g0 gu _ (fun e2 => e e2)]; exact hgu, hnu, hcu, hsu, htu⟩
    · have holds : ∀ j u, xs[j]? = some u → w.cell? ((⟨g0, 0, none⟩ : Addr).add j) = some u := hown.cells (g := g0) rfl
      have hr := run_append_grow (P := Tryz.prog) w 37 ty 5 i (.int .u8 0) Tryz.underlying37 hi hz ⟨g0, 0, none⟩ m cap0 xs (by rw [hsz]; exact hown.1) holds ad k c news (by rw [hsz]; omega) hnews (by omega) (by omega) (growslice_fits (by omega) (by rw [hb]; omega))
      rw [hr] at hrun
      injection hrun with _ hw
      subst hw
      exact own_kept (L := []) hu ((Fr.refl _ _).drew.alloc _) (by simp)

section
variable {ops : Array Oper} {rest : List Oper} {o : Oper} {a : Act} {w : World} {Q : Exit → Act → World → Prop}
theorem wp_app (hgd : o.guard = none) (s x : Operand) (ho : o.op = .call { callee := .builtin .append, args := #[s, x], argTypes := #[37, 37] }) (v : Value) (m : Nat) (xs : List Value) (hs : a.eval s = v) (hown : w.ownsRow 0 5 1 v m xs)
    (b k c : Nat) (news : List Value) (hl : news.length = k) (hx : a.eval x = .slice (some ⟨b, 0, none⟩) k c) (hnews : ∀ j u, news[j]? = some u → w.cell? ⟨b, j, none⟩ = some u) (h1 : ∀ u ∈ news, u.oneCell' = true) (hk : 0 < k) (hm : m + k ≤ 16777216)
    (h : ∀ g cap w', w'.ownsRow 0 5 1 (.slice (some ⟨g, 0, none⟩) (m + k) cap) (m + k) (xs ++ news) → Fr v.ownBlock.toList w w' → (v.ownBlock = some g ∨ g = w.heap.size) → g < w'.heap.size → (∀ u p ys, w.ownsRow 0 5 1 u p ys → (u.ownBlock = v.ownBlock → p ≤ m) → w'.ownsRow 0 5 1 u p ys) → wpList Tryz.prog ops Q rest (a.put o.dst (.slice (some ⟨g, 0, none⟩) (m + k) cap)) w') : wpList Tryz.prog ops Q (o :: rest) a w :=
  wpList_plain hgd fun K hK => by
    obtain ⟨g, cap, w', hrun, h2, h3, h5, h6, h7⟩ := run_app w o.type v m xs hown ⟨b, 0, none⟩ k c news hl (by intro j u hu; rw [Addr.add_mid]; simpa using hnews j u hu) h1 hk hm
    unfold Oper.wp execOp
    simp [ho, resolve, invoke, builtin, hs, hx, hrun, Result.andThen]
    exact hK _ _ (h _ _ _ h2 h3 h5 h6 h7)

theorem wp_makeL (hgd : o.guard = none) (x y : Operand) (ho : o.op = .makeSlice 84 x y) (n : Nat) (hx : a.eval x = .int .i64 (n : Int)) (hy : a.eval y = .int .i64 (n : Int)) (hn : n ≤ 100000)
    (h : ∀ w' gv, w'.heap[w.heap.size]? = some (.cells gv 37) → gv.size = n → Fr [] w w' → wpList Tryz.prog ops Q rest (a.put o.dst (.slice (some ⟨w.heap.size, 0, none⟩) n n)) w') : wpList Tryz.prog ops Q (o :: rest) a w :=
  wpList_plain hgd fun K hK => by
    obtain ⟨i, hi, hz, hs, hb⟩ := infoL'
    have hrun := run_makeSlice (P := Tryz.prog) w 84 37 i (.slice none 0 0) Tryz.underlying84 hi hz .i64 .i64 (n : Int) (n : Int) (by omega) (by omega) (by rw [hs]; omega) (by rw [hb]; omega) (by omega)
    rw [hs, Int.toNat_natCast, Nat.mul_one] at hrun
    unfold Oper.wp execOp
    simp [ho, hx, hy, hrun, Result.andThen]
    exact hK _ _ (h _ _ (heap_alloc_new w _) (by simp [madeCells]) ((Fr.refl _ _).alloc _))
end
end Go.Proofs.YtplboeplknggbaaGreat.Ab

namespace Go.Proofs.YtplboeplknggbaaGreat.Ab
open Go.RowKit Go.Maps

/-- Lists of bytes, in a table: where they lie, and that no two share memory. -/
structure Lists (w : World) (G : List Nat) (K t : Nat) (ad : Nat → Option Addr) (n cap : Nat → Nat) : Prop where
  few : K ≤ 250
  long : ∀ j, j < K → n j ≤ 100000
  table : ∀ j, j < K → w.cell? ⟨t, j, none⟩ = some (.slice (ad j) (n j) (cap j))
  own : ∀ j, j < K → ∃ xs, xs.length = n j ∧ w.ownsRow 0 5 1 (.slice (ad j) (n j) (cap j)) (n j) xs
  apart : ∀ i j, i < K → j < K → i ≠ j → ∀ g, (Value.slice (ad i) (n i) (cap i)).ownBlock = some g → (Value.slice (ad j) (n j) (cap j)).ownBlock ≠ some g
  within : ∀ j, j < K → ∀ g, (Value.slice (ad j) (n j) (cap j)).ownBlock = some g → g ∈ G
  off : t ∉ G

/-- So far marked. -/
structure Marked (w wr : World) (G : List Nat) (K : Nat) (ad : Nat → Option Addr) (n cap : Nat → Nat) (P : Nat → Nat → Prop) : Prop where
  fr : Fr G w wr
  own : ∀ j, j < K → ∃ xs, xs.length = n j ∧ wr.ownsRow 0 5 1 (.slice (ad j) (n j) (cap j)) (n j) xs ∧ ∀ i, i < n j → P j i → xs[i]? = some (mv j i)

theorem Marked.mono {w wr : World} {G : List Nat} {K : Nat} {ad : Nat → Option Addr} {n cap : Nat → Nat} {P R : Nat → Nat → Prop} (h : Marked w wr G K ad n cap P) (hr : ∀ j i, j < K → i < n j → R j i → P j i) : Marked w wr G K ad n cap R :=
  ⟨h.fr, fun j hj => by obtain ⟨xs, a, b, c⟩ := h.own j hj; exact ⟨xs, a, b, fun i hi hR => c i hi (hr j i hj hi hR)⟩⟩
theorem Marked.drew {w wr : World} {G : List Nat} {K : Nat} {ad : Nat → Option Addr} {n cap : Nat → Nat} {P : Nat → Nat → Prop} (h : Marked w wr G K ad n cap P) : Marked w wr.drew G K ad n cap P := ⟨h.fr.drew, h.own⟩
theorem Marked.table {w wr : World} {G : List Nat} {K t : Nat} {ad : Nat → Option Addr} {n cap : Nat → Nat} {P : Nat → Nat → Prop} (h : Marked w wr G K ad n cap P) (L : Lists w G K t ad n cap) (j : Nat) (hj : j < K) : wr.cell? ⟨t, j, none⟩ = some (.slice (ad j) (n j) (cap j)) := by
  have hc := L.table j hj
  exact (World.cell?_of_block (h.fr.block t (block_lt_of_cell hc) L.off)).trans hc
theorem Marked.put {w wr : World} {G : List Nat} {K t : Nat} {ad : Nat → Option Addr} {n cap : Nat → Nat} {P R : Nat → Nat → Prop} (h : Marked w wr G K ad n cap P) (L : Lists w G K t ad n cap) (k i g : Nat) (hk : k < K) (hg : ad k = some ⟨g, 0, none⟩)
    (hr : ∀ j s, j < K → s < n j → R j s → P j s ∨ j = k ∧ s = i) : Marked w (wr.setCell ⟨g, i, none⟩ (mv k i)) G K ad n cap R := by
  refine ⟨h.fr.setCell _ _ (fun _ => L.within k hk g (by rw [hg]; rfl)), fun j hj => ?_⟩
  obtain ⟨xs, a, b, c⟩ := h.own j hj
  by_cases e : j = k
  · subst e
    refine ⟨xs.set i (mv j i), by simpa using a, ?_, ?_⟩
    · rw [hg] at b ⊢
      exact own_set b i _
    · intro s hs hR
      by_cases e2 : s = i
      · subst e2
        rw [List.getElem?_set_self (by omega)]
      · rw [List.getElem?_set_ne (fun e3 => e2 e3.symm)]
        rcases hr j s hj hs hR with h1 | h1
        · exact c s hs h1
        · exact absurd h1.2 e2
  · refine ⟨xs, a, own_kept (L := [g]) b ((Fr.refl _ _).setCell _ _ (by simp)) ?_, ?_⟩
    · intro g' hg' hm
      simp at hm
      subst hm
      exact L.apart k j hk hj (fun e2 => e e2.symm) g' (by rw [hg]; rfl) hg'
    · intro s hs hR
      rcases hr j s hj hs hR with h1 | h1
      · exact c s hs h1
      · exact absurd h1.1 e

/-- A block of 64 bytes. -/
def Many (w : World) (b : Nat) : Prop := ∃ cur : Array Value, w.heap[b]? = some (.cells cur 5) ∧ cur.size = 64 ∧ ∀ v ∈ cur.toList, v.oneCell' = true

/-- Grown: the table h has, for each list so far, one that goes on with 64 bytes more; D: how many of its bytes are marks. -/
structure Grown (w wr : World) (G : List Nat) (K : Nat) (ad : Nat → Option Addr) (n cap : Nat → Nat) (h : Nat) (D : Nat → Nat) (k : Nat) (gv : Array Value) : Prop where
  fr : Fr G w wr
  own : ∀ j, j < K → wr.ownsRow 0 5 1 (.slice (ad j) (n j) (cap j)) (n j) (marks j (n j))
  new : w.heap.size ≤ h
  tab : wr.heap[h]? = some (.cells gv 37)
  size : gv.size = K
  got : ∀ j, j < k → ∃ b c xs, gv[j]? = some (.slice (some ⟨b, 0, none⟩) (n j + 64) c) ∧ wr.ownsRow 0 5 1 (.slice (some ⟨b, 0, none⟩) (n j + 64) c) (n j + 64) xs ∧ (∀ i, i < D j → xs[i]? = some (mv j i)) ∧ ((Value.slice (ad j) (n j) (cap j)).ownBlock = some b ∨ w.heap.size ≤ b ∧ b ≠ h)

section
variable {w wr : World} {G : List Nat} {K t : Nat} {ad : Nat → Option Addr} {n cap : Nat → Nat} {h : Nat} {D : Nat → Nat} {k : Nat} {gv : Array Value}
theorem Grown.table (g : Grown w wr G K ad n cap h D k gv) (L : Lists w G K t ad n cap) (j : Nat) (hj : j < K) : wr.cell? ⟨t, j, none⟩ = some (.slice (ad j) (n j) (cap j)) := by
  have hc := L.table j hj
  exact (World.cell?_of_block (g.fr.block t (block_lt_of_cell hc) L.off)).trans hc
theorem Grown.drew (g : Grown w wr G K ad n cap h D k gv) : Grown w wr.drew G K ad n cap h D k gv := ⟨g.fr.drew, g.own, g.new, g.tab, g.size, g.got⟩
theorem Grown.drewN (g : Grown w wr G K ad n cap h D k gv) (m : Nat) : Grown w (wr.drewN m) G K ad n cap h D k gv := by
  induction m with
  | zero => exact g
  | succ m ih => exact ih.drew
theorem Grown.lt (g : Grown w wr G K ad n cap h D k gv) : h < wr.heap.size := (Array.getElem?_eq_some_iff.1 g.tab).1
theorem Grown.kept (g : Grown w wr G K ad n cap h D k gv) {w' : World} (f : Fr [] wr w') : Grown w w' G K ad n cap h D k gv :=
  ⟨g.fr.then f (fun _ _ e => nomatch e), fun j hj => own_kept (g.own j hj) f (by simp), g.new, f.same (by simp) g.tab, g.size, fun j hj => by
    obtain ⟨b, c, xs, h1, h2, h3, h4⟩ := g.got j hj
    exact ⟨b, c, xs, h1, own_kept h2 f (by simp), h3, h4⟩⟩
theorem Lists.lt (L : Lists w G K t ad n cap) (j : Nat) (hj : j < K) (g : Nat) (hg : (Value.slice (ad j) (n j) (cap j)).ownBlock = some g) : g < w.heap.size := by
  obtain ⟨xs, _, ho⟩ := L.own j hj
  exact own_lt ho g hg
/-- A row of list k's grows: it lies in k's own block, or in one that is new since S. -/
theorem Grown.app (g : Grown w wr G K ad n cap h D k gv) (L : Lists w G K t ad n cap) (hkK : k < K) {S : Nat} (hS : h < S) (hS2 : ∀ j, j < k → ∀ b m c, gv[j]? = some (.slice (some ⟨b, 0, none⟩) m c) → b < S) {v : Value} {m : Nat} (hm : n k ≤ m) {w' : World} (f : Fr v.ownBlock.toList wr w')
    (keep : ∀ u p ys, wr.ownsRow 0 5 1 u p ys → (u.ownBlock = v.ownBlock → p ≤ m) → w'.ownsRow 0 5 1 u p ys)
    (hv : v.ownBlock = (Value.slice (ad k) (n k) (cap k)).ownBlock ∨ ∃ b, v.ownBlock = some b ∧ S ≤ b) : Grown w w' G K ad n cap h D k gv := by
  have hw := g.new
  have hlt := g.lt
  have key : ∀ b, v.ownBlock = some b → b < S → (Value.slice (ad k) (n k) (cap k)).ownBlock = some b := by
    intro b hb hbS
    rcases hv with e | ⟨b', e, hb'⟩
    · rw [← e]; exact hb
    · rw [hb] at e; cases e; omega
  have hne : v.ownBlock ≠ some h := fun e => by
    have := L.lt k hkK h (key h e hS)
    omega
  refine ⟨g.fr.then f ?_, ?_, g.new, f.same ?_ g.tab, g.size, ?_⟩
  · intro i hi e
    simp at e
    by_cases hiS : i < S
    · exact L.within k hkK i (key i e hiS)
    · omega
  · intro j hj
    refine keep _ _ _ (g.own j hj) ?_
    intro e
    by_cases ej : j = k
    · subst ej; exact hm
    · cases hb : (Value.slice (ad j) (n j) (cap j)).ownBlock with
      | none =>
        rcases (g.own j hj).2 with ⟨_, e2⟩ | ⟨b, c, cur, e2, _⟩
        · omega
        · rw [e2] at hb; cases hb
      | some b =>
        rw [hb] at e
        have hbl := L.lt j hj b hb
        exact absurd hb (L.apart k j hkK hj (fun e => ej e.symm) b (key b e.symm (by omega)))
  · intro e
    simp at e
    exact hne e
  · intro j hj
    obtain ⟨b, c, xs, h1, h2, h3, h4⟩ := g.got j hj
    refine ⟨b, c, xs, h1, keep _ _ _ h2 ?_, h3, h4⟩
    intro e
    have hbS := hS2 j hj b _ _ h1
    have e1 := key b e.symm hbS
    rcases h4 with e2 | ⟨e2, _⟩
    · exact absurd e1 (L.apart j k (by omega) hkK (by omega) b e2)
    · have := L.lt k hkK b e1
      omega
/-- A block that is none of these is written. -/
theorem Grown.other (g : Grown w wr G K ad n cap h D k gv) {S mb i : Nat} {x : Value} (hm : S ≤ mb) (L : Lists w G K t ad n cap) (hS2 : ∀ j, j < k → ∀ b m c, gv[j]? = some (.slice (some ⟨b, 0, none⟩) m c) → b < S) (hS : h < S) : Grown w (wr.setCell ⟨mb, i, none⟩ x) G K ad n cap h D k gv := by
  have f : Fr [mb] wr (wr.setCell ⟨mb, i, none⟩ x) := (Fr.refl _ _).setCell _ _ (by simp)
  have hw := g.new
  refine ⟨g.fr.setCell _ _ (fun e => by have e' : mb < w.heap.size := e; omega), ?_, g.new, f.same (by simp; omega) g.tab, g.size, ?_⟩
  · intro j hj
    exact own_kept (g.own j hj) f (fun g' e e2 => by simp at e2; subst e2; have := L.lt j hj _ e; omega)
  · intro j hj
    obtain ⟨b, c, xs, h1, h2, h3, h4⟩ := g.got j hj
    refine ⟨b, c, xs, h1, own_kept h2 f (fun g' e e2 => ?_), h3, h4⟩
    simp at e2
    subst e2
    have : b = g' := by simpa [Value.ownBlock] using e
    have := hS2 j hj b _ _ h1
    omega
theorem Grown.store (g : Grown w wr G K ad n cap h D k gv) (hkK : k < K) {b c : Nat} {xs : List Value} (h2 : wr.ownsRow 0 5 1 (.slice (some ⟨b, 0, none⟩) (n k + 64) c) (n k + 64) xs) (h3 : ∀ i, i < D k → xs[i]? = some (mv k i)) (h4 : (Value.slice (ad k) (n k) (cap k)).ownBlock = some b ∨ w.heap.size ≤ b ∧ b ≠ h)
    (hoff : ∀ j, j < K → (Value.slice (ad j) (n j) (cap j)).ownBlock ≠ some h) (hbh : b ≠ h) :
    Grown w (wr.setCell ⟨h, k, none⟩ (.slice (some ⟨b, 0, none⟩) (n k + 64) c)) G K ad n cap h D (k + 1) (gv.setIfInBounds k (.slice (some ⟨b, 0, none⟩) (n k + 64) c)) := by
  have f : Fr [h] wr (wr.setCell ⟨h, k, none⟩ (.slice (some ⟨b, 0, none⟩) (n k + 64) c)) := (Fr.refl _ _).setCell _ _ (by simp)
  have hw := g.new
  refine ⟨g.fr.setCell _ _ (fun e => by have e' : h < w.heap.size := e; omega), ?_, g.new, heap_setCell_same wr h k _ _ _ g.tab, by simpa using g.size, ?_⟩
  · intro j hj
    exact own_kept (g.own j hj) f (fun g' e e2 => by simp at e2; subst e2; exact hoff j hj e)
  · intro j hj
    by_cases e : j = k
    · subst e
      refine ⟨b, c, xs, by rw [Array.getElem?_setIfInBounds_self]; simp [g.size, hkK], own_kept h2 f ?_, h3, h4⟩
      intro g' e e2
      simp at e2
      subst e2
      exact hbh (by simpa [Value.ownBlock] using e)
    · obtain ⟨b', c', ys, k1, k2, k3, k4⟩ := g.got j (by omega)
      refine ⟨b', c', ys, by rw [Array.getElem?_setIfInBounds_ne (fun e2 => e e2.symm)]; exact k1, own_kept k2 f ?_, k3, k4⟩
      intro g' e1 e2
      simp at e2
      subst e2
      have : b' = g' := by simpa [Value.ownBlock] using e1
      subst this
      rcases k4 with k4 | k4
      · exact hoff j (by omega) k4
      · exact k4.2 rfl
theorem Grown.cell (g : Grown w wr G K ad n cap h D k gv) (j : Nat) : wr.cell? ⟨h, j, none⟩ = gv[j]? := cell_of_row wr h j _ _ _ g.tab
theorem Grown.cellIs (g : Grown w wr G K ad n cap h D k gv) (j : Nat) (hj : j < K) : ∃ v, wr.cell? ⟨h, j, none⟩ = some v := ⟨_, by rw [g.cell, Array.getElem?_eq_getElem (by rw [g.size]; exact hj)]⟩
theorem Grown.frozen (g : Grown w wr G K ad n cap h D k gv) (j : Nat) : wr.frozen? ⟨h, j, none⟩ = false := frozen_of_row wr h j _ _ g.tab
theorem Grown.below (g : Grown w wr G K ad n cap h D k gv) (j : Nat) (hj : j < k) (b m c : Nat) (e : gv[j]? = some (.slice (some ⟨b, 0, none⟩) m c)) : b < wr.heap.size := by
  obtain ⟨b', c', ys, k1, k2, _, _⟩ := g.got j hj
  rw [k1] at e
  cases e
  exact own_lt k2 _ rfl
theorem Grown.again (g : Grown w wr G K ad n cap h D k gv) (E : Nat → Nat) : Grown w wr G K ad n cap h E 0 gv := ⟨g.fr, g.own, g.new, g.tab, g.size, fun j hj => by omega⟩
theorem Marked.grown {P : Nat → Nat → Prop} (m : Marked w wr G K ad n cap P) (hP : ∀ j i, j < K → P j i) {w' : World} (f : Fr [] wr w') (hh : w.heap.size ≤ h) (ht : w'.heap[h]? = some (.cells gv 37)) (hs : gv.size = K) : Grown w w' G K ad n cap h D 0 gv :=
  ⟨m.fr.then f (fun _ _ e => nomatch e), fun j hj => by
    obtain ⟨xs, a, b, c⟩ := m.own j hj
    have := marks_eq a (fun i hi => c i hi (hP j i hj))
    rw [← this]
    exact own_kept b f (by simp), hh, ht, hs, fun j hj => by omega⟩
end
theorem mv_add (k a i : Nat) : Value.int .u8 (mB (k : Int) ((a : Int) + (i : Int))) = mv k (a + i) := by unfold mv; rw [Int.natCast_add]

set_option maxHeartbeats 4000000 in
set_option maxRecDepth 100000 in
theorem flatBytes_any (w : World) (G : List Nat) (K t c : Nat) (ad : Nat → Option Addr) (n cap : Nat → Nat) (L : Lists w G K t ad n cap) :
    Calls Tryz.prog 101 #[.slice (some ⟨t, 0, none⟩) K c] w fun e w' => e = .returned (.bool true) ∧ Fr G w w' := by
  have hK : (K : Int) ≤ 250 := by have := L.few; omega
  have hK0 : (0 : Int) ≤ (K : Int) := by omega
  go_enter Tryz.func101, Tryz.ntmps101
  go_wp2_with go_in
  go_loopw [3] (fun kv wr => ∃ k : Nat, k ≤ K ∧ kv = .int .i64 k ∧ Marked w wr G K ad n cap (fun j _ => j < k)) (fun kv _ => K - (intOf kv).toNat)
  case atStart => exact ⟨0, Nat.zero_le _, rfl, Fr.refl _ _, fun j hj => by obtain ⟨xs, a, b⟩ := L.own j hj; exact ⟨xs, a, b, fun _ _ h => by omega⟩⟩
  case round =>
    obtain ⟨k, hk, rfl, M⟩ := hrel
    by_cases hlt : k < K
    · have hlt' : (k : Int) < (K : Int) := by omega
      have hk0 : (0 : Int) ≤ (k : Int) := by omega
      have hn : (n k : Int) ≤ 100000 := by have := L.long k hlt; omega
      have hn0 : (0 : Int) ≤ (n k : Int) := by omega
      go_wp2_with go_in
      go_loopw [4] (fun iv wx => ∃ i : Nat, i ≤ n k ∧ iv = .int .i64 i ∧ Marked w wx G K ad n cap (fun j s => j < k ∨ j = k ∧ s < i)) (fun iv _ => n k - (intOf iv).toNat)
      case atStart => exact ⟨0, Nat.zero_le _, rfl, M.mono (fun j i _ _ h => by omega)⟩
      case round =>
        obtain ⟨i, hi, rfl, M2⟩ := hrel
        have hct := M2.table L k hlt
        by_cases hil : i < n k
        · have hil' : (i : Int) < (n k : Int) := by omega
          have hi0 : (0 : Int) ≤ (i : Int) := by omega
          obtain ⟨xs, hxl, hown, _⟩ := M2.own k hlt
          obtain ⟨g, hg, ⟨v, hv, hcell⟩, hfz, _⟩ := own_cell hown i hil
          rw [hg] at hct
          have hput := M2.put L k i g (R := fun j s => j < k ∨ j = k ∧ s < i + 1) hlt hg (fun j s _ _ h => by omega)
          clear hown hv hxl
          go_wp2_with go_in
          go_region_with (go_at_call 115; refine (markByte_any _ k i (by omega) (by omega) (by omega) (by omega)).mono ?_; rintro e w5 ⟨rfl, rfl⟩)
          all_goals
            go_wp2_with go_in
            exact ⟨⟨i + 1, by omega, by go_num, hput.drew⟩, by simp [intOf]; omega⟩
        · obtain rfl : i = n k := by omega
          go_wp2_with go_in
          exact ⟨⟨k + 1, by omega, by go_num, M2.mono (fun j s _ hs h => by by_cases e : j = k; exact Or.inr ⟨e, by rw [← e]; exact hs⟩; exact Or.inl (by omega))⟩, by simp [intOf]; omega⟩
    · obtain rfl : K = k := by omega
      have hsz := M.fr.size
      go_wp2_with (refine wp_makeL rfl _ _ rfl K rfl rfl (by omega) ?_; intro w5 gv5 hb5 hs5 f5)
      have g0 := M.grown (D := fun j => n j + 64) (h := wr.heap.size) (fun j _ hj => hj) f5 hsz hb5 hs5
      clear hb5 hs5 f5 M
      have hoff : ∀ j, j < K → (Value.slice (ad j) (n j) (cap j)).ownBlock ≠ some wr.heap.size := fun j hj e => by have := L.lt j hj _ e; omega
      have HO : Hid (∀ j, j < K → (Value.slice (ad j) (n j) (cap j)).ownBlock ≠ some wr.heap.size) := hoff
      clear hoff
      generalize wr.heap.size = h at *
      go_loopw [6] (fun kv wx => ∃ k gv, k ≤ K ∧ kv = .int .i64 (k : Nat) ∧ Grown w wx G K ad n cap h (fun j => n j + 64) k gv) (fun kv _ => K - (intOf kv).toNat)
      case atStart => exact ⟨0, _, Nat.zero_le _, rfl, g0⟩
      case round =>
        obtain ⟨k, gv, hk, rfl, g1⟩ := hrel
        by_cases hlt : k < K
        · have hlt' : (k : Int) < (K : Int) := by omega
          have hk0 : (0 : Int) ≤ (k : Int) := by omega
          have hn : (n k : Int) ≤ 100000 := by have := L.long k hlt; omega
          have hn0 : (0 : Int) ≤ (n k : Int) := by omega
          have hct := g1.table L k hlt
          obtain ⟨S, hS⟩ : ∃ S, S = wr.heap.size := ⟨_, rfl⟩
          have HS2 : Hid (∀ j, j < k → ∀ b m c, gv[j]? = some (.slice (some ⟨b, 0, none⟩) m c) → b < S) := fun j hj b m c e => by rw [hS]; exact g1.below j hj b m c e
          have hSh : h < S := by rw [hS]; exact g1.lt
          have hSw : S ≤ wr.heap.size := by omega
          clear hS
          go_wp2_with go_in
          go_loopw [7, 8] (fun vv iv wx => ∃ (i : Nat) (a' : Option Addr) (c' : Nat), i ≤ 64 ∧ iv = .int .i64 (i : Nat) ∧ vv = .slice a' (n k + i) c' ∧ S ≤ wx.heap.size ∧ Grown w wx G K ad n cap h (fun j => n j + 64) k gv ∧ wx.ownsRow 0 5 1 (.slice a' (n k + i) c') (n k + i) (marks k (n k + i)) ∧ ((Value.slice a' (n k + i) c').ownBlock = (Value.slice (ad k) (n k) (cap k)).ownBlock ∨ ∃ b, (Value.slice a' (n k + i) c').ownBlock = some b ∧ S ≤ b)) (fun _ iv _ => 64 - (intOf iv).toNat)
          case atStart => exact ⟨0, _, _, by omega, rfl, rfl, hSw, g1, g1.own k hlt, Or.inl rfl⟩
          case round =>
            obtain ⟨i, a', c', hi, rfl, rfl, hSx, g2, ho2, hb2⟩ := hrel
            have hct := g2.table L k hlt
            have hi0 : (0 : Int) ≤ (i : Int) := by omega
            by_cases hil : i < 64
            · have hil' : (i : Int) < 64 := by omega
              have fA : Fr [] wr (wr.alloc (.cells #[.int .u8 (mB (k : Int) ((n k : Int) + (i : Int)))] 5)) := (Fr.refl _ _).alloc _
              have oA := own_kept ho2 fA (by simp)
              have cA : (wr.alloc (.cells #[.int .u8 (mB (k : Int) ((n k : Int) + (i : Int)))] 5)).cell? ⟨wr.heap.size, 0, none⟩ = some (.int .u8 (mB (k : Int) ((n k : Int) + (i : Int)))) := by rw [cell_of_row _ _ _ _ _ _ (heap_alloc_new wr _)]; rfl
              have gA := g2.kept fA
              go_wp2_with (first
                | (go_at_call 115; refine (markByte_any _ k _ (by omega) (by omega) (by omega) (by omega)).mono ?_; rintro e w5 ⟨rfl, rfl⟩)
                | (refine wp_app rfl _ _ rfl (.slice a' (n k + i) c') _ _ rfl oA wr.heap.size 1 1 [.int .u8 (mB (k : Int) ((n k : Int) + (i : Int)))] rfl rfl (by intro j u hu; cases j with | zero => (simp at hu; subst hu; exact cA) | succ j => simp at hu) (by intro u hu; simp at hu; subst hu; rfl) (by omega) (by omega) ?_; intro g5 cap5 w5 o5 f5 at5 lt5 keep5))
              have g3 := gA.app L hlt hSh HS2.out (by omega) f5 keep5 hb2
              have hsz5 := f5.size
              simp at hsz5
              refine ⟨⟨i + 1, _, _, by omega, by go_num, rfl, by omega, g3, ?_, ?_⟩, by simp [intOf]; omega⟩
              · rw [show n k + (i + 1) = n k + i + 1 from rfl, marks_succ, ← mv_add]
                exact o5
              · rcases at5 with e | e
                · rcases hb2 with e2 | ⟨b, e2, hb⟩
                  · exact Or.inl (by rw [← e2, e]; rfl)
                  · rw [e2] at e
                    cases e
                    exact Or.inr ⟨g5, rfl, hb⟩
                · exact Or.inr ⟨g5, rfl, by simp at e; omega⟩
            · obtain rfl : i = 64 := by omega
              obtain ⟨g6, rfl, _, _, lt6⟩ := own_cell ho2 0 (by omega)
              have hw6 : g6 ≠ h := by
                rintro rfl
                rcases hb2 with e | ⟨b, e, hb⟩
                · exact HO.out k hlt e.symm
                · have : g6 = b := by simpa [Value.ownBlock] using e
                  omega
              have g4 := g2.store hlt ho2 (fun i hi => marks_at k _ i hi) (by
                rcases hb2 with e | ⟨b, e, hb⟩
                · exact Or.inl e.symm
                · have : g6 = b := by simpa [Value.ownBlock] using e
                  exact Or.inr ⟨by have := g2.new; omega, hw6⟩) HO.out hw6
              obtain ⟨vv, hcv⟩ := g2.cellIs k hlt
              have hfz := g2.frozen k
              go_wp2_with go_in
              exact ⟨⟨k + 1, _, by omega, by go_num, g4⟩, by simp [intOf]; omega⟩
        · obtain rfl : K = k := by omega
          go_wp2_with go_in
          clear g0
          go_loopw [9] (fun kv wx => ∃ k, k ≤ K ∧ kv = .int .i64 (k : Nat) ∧ Grown w wx G K ad n cap h (fun j => n j + 64) K gv) (fun kv _ => K - (intOf kv).toNat)
          case atStart => exact ⟨0, Nat.zero_le _, rfl, g1⟩
          case round =>
            obtain ⟨k, hk, rfl, g2⟩ := hrel
            by_cases hlt : k < K
            · have hlt' : (k : Int) < (K : Int) := by omega
              have hk0 : (0 : Int) ≤ (k : Int) := by omega
              have hn : (n k : Int) ≤ 100000 := by have := L.long k hlt; omega
              have hn0 : (0 : Int) ≤ (n k : Int) := by omega
              go_wp2_with go_in
              go_loopw [10] (fun iv wx => ∃ i, i ≤ n k + 64 ∧ iv = .int .i64 (i : Nat) ∧ Grown w wx G K ad n cap h (fun j => n j + 64) K gv) (fun iv _ => n k + 64 - (intOf iv).toNat)
              case atStart => exact ⟨0, Nat.zero_le _, rfl, g2⟩
              case round =>
                obtain ⟨i, hi, rfl, g3⟩ := hrel
                have hct := g3.table L k hlt
                obtain ⟨b, cb, xs, k1, k2, k3, _⟩ := g3.got k hlt
                have hcg := g3.cell k
                rw [k1] at hcg
                have hi0 : (0 : Int) ≤ (i : Int) := by omega
                by_cases hil : i < n k + 64
                · have hil' : (i : Int) < (n k : Int) + 64 := by omega
                  obtain ⟨_, e6, ⟨v6, hv6, hc6⟩, _⟩ := own_cell k2 i hil
                  cases e6
                  rw [k3 i hil] at hv6
                  cases hv6
                  unfold mv at hc6
                  clear k1 k2 k3
                  by_cases hin : i < n k
                  · have hin' : decide ((i : Int) < (n k : Int)) = true := by simp; omega
                    obtain ⟨g7, e7, ⟨v7, hv7, hc7⟩, _⟩ := own_cell (g3.own k hlt) i hin
                    rw [marks_at k _ i hin] at hv7
                    cases hv7
                    unfold mv at hc7
                    rw [e7] at hct
                    go_wp2_with go_in
                    go_quiet ((go_at_call 115; exact Calls.quiet_of_same (markByte_eq _ _ _ (by omega) (by omega) (by omega) (by omega))))
                    go_wp2_with go_in
                    exact ⟨⟨i + 1, by omega, by go_num, g3.drewN _⟩, by simp [intOf]; omega⟩
                  · have hin' : decide ((i : Int) < (n k : Int)) = false := by simp; omega
                    go_wp2_with go_in
                    go_quiet ((go_at_call 115; exact Calls.quiet_of_same (markByte_eq _ _ _ (by omega) (by omega) (by omega) (by omega))))
                    go_wp2_with go_in
                    exact ⟨⟨i + 1, by omega, by go_num, g3.drewN _⟩, by simp [intOf]; omega⟩
                · obtain rfl : i = n k + 64 := by omega
                  clear k1 k2 k3
                  go_wp2_with go_in
                  exact ⟨⟨k + 1, by omega, by go_num, g3⟩, by simp [intOf]; omega⟩
            · obtain rfl : K = k := by omega
              have g9 := g2.again n
              clear g2 g1
              go_wp2_with go_in
              go_loopw [11] (fun kv wx => ∃ k gv, k ≤ K ∧ kv = .int .i64 (k : Nat) ∧ Grown w wx G K ad n cap h n k gv) (fun kv _ => K - (intOf kv).toNat)
              case atStart => exact ⟨0, _, Nat.zero_le _, rfl, g9⟩
              case round =>
                clear g9
                obtain ⟨k, gv, hk, rfl, g1⟩ := hrel
                by_cases hlt : k < K
                · have hlt' : (k : Int) < (K : Int) := by omega
                  have hk0 : (0 : Int) ≤ (k : Int) := by omega
                  have hn : (n k : Int) ≤ 100000 := by have := L.long k hlt; omega
                  have hn0 : (0 : Int) ≤ (n k : Int) := by omega
                  obtain ⟨S, hS⟩ : ∃ S, S = wr.heap.size := ⟨_, rfl⟩
                  have HS2 : Hid (∀ j, j < k → ∀ b m c, gv[j]? = some (.slice (some ⟨b, 0, none⟩) m c) → b < S) := fun j hj b m c e => by rw [hS]; exact g1.below j hj b m c e
                  have hSh : h < S := by rw [hS]; exact g1.lt
                  have hSw : S ≤ wr.heap.size := by omega
                  clear hS
                  go_wp2_with (refine wp_make rfl _ _ rfl 64 rfl rfl (by omega) ?_; intro w5 mb hmb hbk f5)
                  have g2 := g1.kept f5
                  have hmS : S ≤ mb := by omega
                  have hm0 : Many w5 mb := ⟨_, hbk, by simp [arr_size], arr_one _⟩
                  have hS5 : S ≤ w5.heap.size := by have := f5.size; omega
                  clear hmb hbk f5
                  go_loopw [13] (fun iv wx => ∃ i : Nat, i ≤ 64 ∧ iv = .int .i64 i ∧ Many wx mb ∧ S ≤ wx.heap.size ∧ Grown w wx G K ad n cap h n k gv) (fun iv _ => 64 - (intOf iv).toNat)
                  case atStart => exact ⟨0, by omega, rfl, hm0, hS5, g2⟩
                  case round =>
                    obtain ⟨i, hi, rfl, ⟨cur, hcur, hcs, hc1⟩, hSx, g3⟩ := hrel
                    have hi0 : (0 : Int) ≤ (i : Int) := by omega
                    by_cases hil : i < 64
                    · have hil' : (i : Int) < 64 := by omega
                      have hcell := cell_of_row wr mb i _ _ _ hcur
                      rw [Array.getElem?_eq_getElem (by omega)] at hcell
                      have hfz := frozen_of_row wr mb i _ _ hcur
                      have C1 : Hid (∀ v ∈ cur.toList, v.oneCell' = true) := hc1
                      clear hc1
                      go_wp2_with (go_at_call 115; refine (markByte_any _ _ _ (by omega) (by omega) (by omega) (by omega)).mono ?_; rintro e w5 ⟨rfl, rfl⟩)
                      refine ⟨⟨i + 1, by omega, by go_num, ⟨_, heap_setCell_same wr mb i _ _ _ hcur, by simpa using hcs, ?_⟩, by simpa [World.setCell] using hSx, ?_⟩, by simp [intOf]; omega⟩
                      · intro v hv
                        rw [Array.toList_setIfInBounds] at hv
                        rcases List.mem_or_eq_of_mem_set hv with h1 | h1
                        · exact C1.out v h1
                        · rw [h1]; rfl
                      · exact g3.other hmS L HS2.out hSh
                    · obtain rfl : i = 64 := by omega
                      have hct := g3.table L k hlt
                      obtain ⟨vv, hcv⟩ := g3.cellIs k hlt
                      have hfz := g3.frozen k
                      have hcl : cur.toList.length = 64 := by simpa using hcs
                      have ho3 := g3.own k hlt
                      have HN : Hid (∀ j u, cur.toList[j]? = some u → wr.cell? ⟨mb, j, none⟩ = some u) := fun j u hu => by rw [cell_of_row wr mb j _ _ _ hcur]; simpa using hu
                      have C1 : Hid (∀ v ∈ cur.toList, v.oneCell' = true) := hc1
                      clear hc1 hcs
                      go_wp2_with (refine wp_app rfl _ _ rfl (.slice (ad k) (n k) (cap k)) _ _ rfl ho3 mb 64 64 cur.toList hcl rfl HN.out C1.out (by omega) (by omega) ?_; intro g5 cap5 w5 o5 f5 at5 lt5 keep5; have g4 := g3.app L hlt hSh HS2.out (Nat.le_refl _) f5 keep5 (Or.inl rfl); obtain ⟨v8, hc8⟩ := g4.cellIs k hlt; have hf8 := g4.frozen k)
                      have hgh : g5 ≠ h := by
                        rcases at5 with e | e
                        · rintro rfl; exact HO.out k hlt e
                        · omega
                      refine ⟨⟨k + 1, _, by omega, by go_num, g4.store hlt o5 ?_ ?_ HO.out hgh⟩, by simp [intOf]; omega⟩
                      · intro i hi
                        rw [List.getElem?_append_left (by rw [marks_length]; exact hi), marks_at k _ i hi]
                      · rcases at5 with e | e
                        · exact Or.inl e
                        · exact Or.inr ⟨by have := g3.new; omega, hgh⟩
                · obtain rfl : K = k := by omega
                  go_wp2_with go_in
                  go_loopw [14] (fun kv wx => ∃ k, k ≤ K ∧ kv = .int .i64 (k : Nat) ∧ Grown w wx G K ad n cap h n K gv) (fun kv _ => K - (intOf kv).toNat)
                  case atStart => exact ⟨0, Nat.zero_le _, rfl, g1⟩
                  case round =>
                    obtain ⟨k, hk, rfl, g2⟩ := hrel
                    by_cases hlt : k < K
                    · have hlt' : (k : Int) < (K : Int) := by omega
                      have hk0 : (0 : Int) ≤ (k : Int) := by omega
                      have hn : (n k : Int) ≤ 100000 := by have := L.long k hlt; omega
                      have hn0 : (0 : Int) ≤ (n k : Int) := by omega
                      go_wp2_with go_in
                      go_loopw [15] (fun iv wx => ∃ i, i ≤ n k ∧ iv = .int .i64 (i : Nat) ∧ Grown w wx G K ad n cap h n K gv) (fun iv _ => n k - (intOf iv).toNat)
                      case atStart => exact ⟨0, Nat.zero_le _, rfl, g2⟩
                      case round =>
                        obtain ⟨i, hi, rfl, g3⟩ := hrel
                        have hct := g3.table L k hlt
                        obtain ⟨b, cb, xs, k1, k2, k3, _⟩ := g3.got k hlt
                        have hcg := g3.cell k
                        rw [k1] at hcg
                        have hi0 : (0 : Int) ≤ (i : Int) := by omega
                        by_cases hil : i < n k
                        · have hil' : (i : Int) < (n k : Int) := by omega
                          have hil2 : (i : Int) < (n k : Int) + 64 := by omega
                          obtain ⟨_, e6, ⟨v6, hv6, hc6⟩, _⟩ := own_cell k2 i (by omega)
                          cases e6
                          rw [k3 i hil] at hv6
                          cases hv6
                          unfold mv at hc6
                          clear k1 k2 k3
                          obtain ⟨g7, e7, ⟨v7, hv7, hc7⟩, _⟩ := own_cell (g3.own k hlt) i hil
                          rw [marks_at k _ i hil] at hv7
                          cases hv7
                          unfold mv at hc7
                          rw [e7] at hct
                          go_wp2_with go_in
                          go_quiet ((go_at_call 115; exact Calls.quiet_of_same (markByte_eq _ _ _ (by omega) (by omega) (by omega) (by omega))))
                          go_wp2_with go_in
                          exact ⟨⟨i + 1, by omega, by go_num, g3.drewN _⟩, by simp [intOf]; omega⟩
                        · obtain rfl : i = n k := by omega
                          clear k1 k2 k3
                          go_wp2_with go_in
                          exact ⟨⟨k + 1, by omega, by go_num, g3⟩, by simp [intOf]; omega⟩
                    · obtain rfl : K = k := by omega
                      go_wp2_with go_in
                      go_ret
                      exact ⟨rfl, g2.fr⟩

end Go.Proofs.YtplboeplknggbaaGreat.Ab

namespace Go.Proofs.YtplboeplknggbaaGreat.Ab
open Go.RowKit Go.Maps

theorem Lists.moved {w w' : World} {G : List Nat} {K t : Nat} {ad : Nat → Option Addr} {n cap : Nat → Nat} (L : Lists w G K t ad n cap) (f : Fr [] w w') (hG : ∀ g ∈ G, g < w.heap.size) (v : Value) (hK : 1 ≤ K) (hv : w'.ownsRow w.heap.size 37 1 v K ((List.range K).map fun j => .slice (ad j) (n j) (cap j))) :
    ∃ t' c', v = .slice (some ⟨t', 0, none⟩) K c' ∧ Lists w' G K t' ad n cap := by
  obtain ⟨t', c', e, hb, _⟩ := hv.form (by omega)
  refine ⟨t', c', e, L.few, L.long, ?_, ?_, L.apart, L.within, fun h => by have := hG t' h; omega⟩
  · intro j hj
    have := hv.cells (g := t') (by rw [e]; rfl) j (.slice (ad j) (n j) (cap j)) (by simp [hj])
    rw [Addr.add_mid] at this
    simpa using this
  · intro j hj
    obtain ⟨xs, h1, h2⟩ := L.own j hj
    exact ⟨xs, h1, own_kept h2 f (by simp)⟩

set_option maxHeartbeats 2000000 in
set_option maxRecDepth 100000 in
theorem apartBytes_any (w : World) (G : List Nat) (K t c : Nat) (ad : Nat → Option Addr) (n cap : Nat → Nat) (L : Lists w G K t ad n cap) (hK : 1 ≤ K) (hG : ∀ g ∈ G, g < w.heap.size) :
    Calls Tryz.prog 32 #[.slice (some ⟨t, 0, none⟩) K c] w fun e w' => e = .returned (.bool true) ∧ Fr G w w' := by
  have hK1 : (K : Int) ≤ 250 := by have := L.few; omega
  have hK0 : (0 : Int) ≤ (K : Int) := by omega
  go_enter Tryz.func32, Tryz.ntmps32
  go_wp2_with go_in
  go_loopw [4] (fun kv wx => ∃ k v, k ≤ K ∧ kv = .int .i64 (k : Nat) ∧ BagOwn w wx w.heap.size v k ((List.range k).map fun j => .slice (ad j) (n j) (cap j))) (fun kv _ => K - (intOf kv).toNat)
  case atStart => exact ⟨0, .slice none 0 0, Nat.zero_le _, rfl, heap_alloc_new w _, World.ownsRow_nil _ _ _ 1, (Fr.refl _ _).alloc _, Nat.le_refl _, by simp [Value.ownBlock]⟩
  case round =>
    obtain ⟨k, v, hk, rfl, B⟩ := hrel
    by_cases hlt : k < K
    · have hlt' : (k : Int) < (K : Int) := by omega
      have hk0 : (0 : Int) ≤ (k : Int) := by omega
      have hct : wr.cell? ⟨t, k, none⟩ = some (.slice (ad k) (n k) (cap k)) := by
        have hc := L.table k hlt
        exact (World.cell?_of_block (B.fr.block t (block_lt_of_cell hc) (by simp))).trans hc
      go_wp2_with (go_at_call 68; refine (put_any w _ _ v _ _ _ k _ B (by omega)).mono ?_; rintro e w5 ⟨rfl, v5, B5⟩)
      refine ⟨⟨k + 1, v5, by omega, by go_num, ?_⟩, by simp [intOf]; omega⟩
      rw [List.range_succ, List.map_append]
      exact B5
    · obtain rfl : K = k := by omega
      obtain ⟨t', c', rfl, _⟩ := L.moved B.fr hG v hK B.own
      go_wp2_with (go_at_call 69; refine (bag_apart_any _ _ _ G B.bag (fun h => by have := hG _ h; omega) (fun w' f => ?_)).mono ?_; (obtain ⟨t2, c2, e2, L2⟩ := L.moved (B.fr.trans f) hG _ hK (own_kept B.own f (by simp)); cases e2; exact flatBytes_any w' G K _ _ ad n cap L2); rintro e w5 ⟨rfl, f5⟩)
      go_ret
      exact ⟨rfl, (B.fr.mono (M := G) (fun _ _ h => nomatch h)).trans f5⟩

end Go.Proofs.YtplboeplknggbaaGreat.Ab

