/-
  The kit's bag of lists of bytes: what is put into it.
-/
import Derived.Test.YtlfpoeimgoikkaaAbBag
import Derived.Deep.AppendLies
namespace Go.Proofs.Ytlfpoeimgoikkaa.Ab
open Go.RowKit Go.Maps

theorem infoL : (Try.prog.info? 22).map (fun i => (i.zero, i.size, i.bytes)) = some (some (.slice none 0 0), 1, 24) := by kernel_rfl
theorem infoL' : ∃ i, Try.prog.info? 22 = some i ∧ i.zero = some (.slice none 0 0) ∧ i.size = 1 ∧ i.bytes = 24 := by
  have h := infoL
  cases hi : Try.prog.info? 22 with
  | none => rw [hi] at h; cases h
  | some i =>
    rw [hi] at h
    simp at h
    exact ⟨i, rfl, h.1, h.2.1, h.2.2⟩

/-- A bag that is new since w0, and whose lists of bytes are these. -/
structure BagOwn (w0 w : World) (p : Nat) (v : Value) (n : Nat) (xs : List Value) : Prop where
  bag : Bag w p v
  own : w.ownsRow w0.heap.size 22 1 v n xs
  fr : Fr [] w0 w
  new : w0.heap.size ≤ p
  ne : v.ownBlock ≠ some p

theorem BagOwn.lt {w0 w : World} {p : Nat} {v : Value} {n : Nat} {xs : List Value} (h : BagOwn w0 w p v n xs) : p < w.heap.size := (Array.getElem?_eq_some_iff.1 h.bag).1
theorem Bag.set4 {w : World} {p : Nat} {v : Value} (h : Bag w p v) (u : Value) : Bag (w.setCell ⟨p, 4, none⟩ u) p u := by
  have := heap_setCell_same w p 4 _ _ u h
  unfold Bag
  rw [this]
  simp
theorem own_kept {w w' : World} {B : Nat} {e : TypeId} {v : Value} {n : Nat} {xs : List Value} {L : List Nat} (h : w.ownsRow B e 1 v n xs) (k : Fr L w w') (hL : ∀ g, v.ownBlock = some g → g ∉ L) : w'.ownsRow B e 1 v n xs := by
  obtain ⟨h1, h2⟩ := h
  refine ⟨h1, ?_⟩
  rcases h2 with hn | ⟨g, cap, cur, rfl, hb, hg, r⟩
  · exact Or.inl hn
  · exact Or.inr ⟨g, cap, cur, rfl, hb, k.same (hL g rfl) hg, r⟩
theorem fr_grown {w w' : World} {row : Option Nat} (k : w.grownBy w' row) : Fr row.toList w w' := (Fr.refl _ _).grown k (fun j e _ => by simp [e])

section
variable {ops : Array Oper} {rest : List Oper} {o : Oper} {a : Act} {w : World} {Q : Exit → Act → World → Prop}
theorem wp_appL (hgd : o.guard = none) (s x : Operand) (ho : o.op = .call { callee := .builtin .append, args := #[s, x], argTypes := #[30, 30] }) (B : Nat) (v : Value) (n : Nat) (xs : List Value) (hs : a.eval s = v) (hown : w.ownsRow B 22 1 v n xs) (hB : B ≤ w.heap.size)
    (b : Nat) (sv : Value) (hsv : sv.oneCell' = true) (hx : a.eval x = .slice (some ⟨b, 0, none⟩) 1 1) (hc : w.cell? ⟨b, 0, none⟩ = some sv) (hn : n ≤ 1000000)
    (h : ∀ g cap w', w'.ownsRow B 22 1 (.slice (some ⟨g, 0, none⟩) (n + 1) cap) (n + 1) (xs ++ [sv]) → Fr v.ownBlock.toList w w' → (v.ownBlock = some g ∨ g = w.heap.size) → g < w'.heap.size → wpList Try.prog ops Q rest (a.put o.dst (.slice (some ⟨g, 0, none⟩) (n + 1) cap)) w') : wpList Try.prog ops Q (o :: rest) a w :=
  wpList_plain hgd fun K hK => by
    obtain ⟨i, hi, hz, hsz, hb⟩ := infoL'
    obtain ⟨g, cap, w', hrun, h2, h3, h5, h6⟩ := run_append_lies (P := Try.prog) w 30 o.type B 22 i (.slice none 0 0) 1 24 Try.underlying30 hi hz hsz hb rfl (by omega) v n xs hown ⟨b, 0, none⟩ 1 1 [sv] rfl
      (by
        intro j u hu
        cases j with
        | zero => simp at hu; subst hu; rw [Addr.add_mid]; exact hc
        | succ j => simp at hu) (by intro u hu; simp at hu; subst hu; exact hsv) (by omega) (by unfold maxLen; omega) (by omega) hB _ rfl
    unfold Oper.wp execOp
    simp [ho, resolve, invoke, builtin, hs, hx, hrun, Result.andThen]
    exact hK _ _ (h _ _ _ h2 (fr_grown h3) h5 h6)
end

set_option maxHeartbeats 1000000 in
set_option maxRecDepth 100000 in
theorem put_any (w0 w : World) (p : Nat) (v : Value) (ad : Option Addr) (m c : Nat) (n : Nat) (xs : List Value) (h : BagOwn w0 w p v n xs) (hn : n ≤ 1000000) :
    Calls Try.prog 44 #[.pointer (some ⟨p, 0, none⟩), .slice ad m c] w fun e w' => e = .returned (.tuple #[]) ∧ ∃ v', BagOwn w0 w' p v' (n + 1) (xs ++ [.slice ad m c]) := by
  have c4 := h.bag.c4
  have hpl := h.lt
  have fA : Fr [] w (w.alloc (.cells #[.slice ad m c] 22)) := (Fr.refl [] w).alloc _
  have bgA := h.bag.kept fA (by simp)
  have owA := own_kept h.own fA (by simp)
  have cA : (w.alloc (.cells #[.slice ad m c] 22)).cell? ⟨w.heap.size, 0, none⟩ = some (.slice ad m c) := by rw [cell_of_row _ _ _ _ _ _ (heap_alloc_new w _)]; rfl
  have hfr := h.fr.size
  have hne := h.ne
  go_enter Try.func44, Try.ntmps44
  go_wp2_with (refine wp_appL rfl _ _ rfl w0.heap.size v n xs rfl owA (by simp; omega) w.heap.size _ rfl rfl cA hn ?_; intro g cap w5 o5 f5 at5 lt5; have b5 := bgA.kept f5 (by intro e; simp at e; exact hne e); have c5 := b5.c4; have z5 := frozen_of_row w5 p 4 _ _ b5)
  go_end0
  have hnew := h.own
  have hgb : w0.heap.size ≤ g ∧ g ≠ p := by
    rcases at5 with e | e
    · refine ⟨?_, fun e2 => hne (e2 ▸ e)⟩
      rcases h.own.2 with ⟨e1, _⟩ | ⟨g1, _, _, e1, hb, _⟩
      · rw [e1] at e; cases e
      · rw [e1] at e; cases e; exact hb
    · simp at e; omega
  have f6 : Fr [] w0 w5 := (h.fr.trans fA).then f5 (by
    intro i hi e
    simp at e
    rcases h.own.2 with ⟨e1, _⟩ | ⟨g1, _, _, e1, hb, _⟩
    · rw [e1] at e; cases e
    · rw [e1] at e; cases e; have hi' : g1 < w0.heap.size := hi; omega)
  refine ⟨rfl, _, ⟨b5.set4 _, ?_, f6.setCell _ _ (fun e => by have := h.new; have e' : p < w0.heap.size := e; omega), h.new, fun e => hgb.2 (by simpa [Value.ownBlock] using e)⟩⟩
  refine own_kept o5 ((Fr.refl [p] w5).setCell _ _ (by simp)) ?_
  intro g' e
  have : g = g' := by simpa [Value.ownBlock] using e
  subst this
  simpa using hgb.2

end Go.Proofs.Ytlfpoeimgoikkaa.Ab
