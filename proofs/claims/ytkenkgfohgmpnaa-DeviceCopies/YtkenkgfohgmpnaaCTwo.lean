/-
  Two pairs of devices, one a copy of the other; three lists of bytes.
-/
import Derived.Test.YtkenkgfohgmpnaaCCopy
import Derived.Test.YtkenkgfohgmpnaaAbApartB
import Derived.Test.YtkenkgfohgmpnaaAwake
namespace Go.Proofs.Ytkenkgfohgmpnaa.C
open Go.RowKit Go.Maps

theorem fr_ab {L : List Nat} {w w' : World} (h : Ab.Fr L w w') : Fr L w w' := ⟨h.os, h.tape, h.output, h.size, h.block⟩

section
variable {v0 w0 w : World} {M N : List Nat} {p bs bo r : Nat} {lv : Value} {n a : Int} {dn : Bool} {S O : Tab} {E : List Ent}
/-- The blocks that a pair writes. -/
def mine (p bs bo r : Nat) (lv : Value) : List Nat := p :: bs :: bo :: r :: lv.ownBlock.toList
theorem Pair.rebase (P : Pair v0 M N w0 w p bs bo r lv n a dn S O E) : Pair w (mine p bs bo r lv) (rblocks r lv E) w0 w p bs bo r lv n a dn S O E :=
  ⟨P.d, P.rr, P.ag, P.sep, P.lo, P.rlo, P.fr, fun x hx => Or.inl (by simp at hx; simp [mine]; omega), fun x hx => Or.inl (by simp only [mine, List.mem_cons] at hx ⊢; exact Or.inr (Or.inr (Or.inr hx))), Fr.refl _ _, fun x hx => Or.inl hx⟩
theorem Pair.beside (P : Pair v0 M N w0 w p bs bo r lv n a dn S O E) {L : List Nat} {w' : World} (f : Fr L w w') (hfr : Fr [] w0 w') (h1 : ∀ x ∈ [p, bs, bo], x ∉ L) (h2 : ∀ x ∈ rblocks r lv E, x ∉ L) : Pair w' (mine p bs bo r lv) (rblocks r lv E) w0 w' p bs bo r lv n a dn S O E :=
  ⟨P.d.kept f (h1 _ (by simp)) (h1 _ (by simp)) (h1 _ (by simp)), P.rr.kept f h2, P.ag, P.sep, P.lo, P.rlo, hfr, fun x hx => Or.inl (by simp at hx; simp [mine]; omega), fun x hx => Or.inl (by simp only [mine, List.mem_cons] at hx ⊢; exact Or.inr (Or.inr (Or.inr hx))), Fr.refl _ _, fun x hx => Or.inl hx⟩
theorem mine_lt (P : Pair v0 M N w0 w p bs bo r lv n a dn S O E) : ∀ x ∈ mine p bs bo r lv, x < w.heap.size := by
  intro x hx
  have hd := P.d.lt
  simp only [mine, List.mem_cons] at hx
  rcases hx with rfl | rfl | rfl | hx
  · exact hd.1
  · exact hd.2.1
  · exact hd.2.2
  · exact P.rr.lts x (own_in (by simpa using hx))

/-- A copy, made beside a pair: a pair of its own. -/
structure Twin (w0 w wc : World) (p bs bo r : Nat) (lv : Value) (E : List Ent) (q bs' bo' q2 : Nat) (lv' : Value) : Prop where
  far : ∀ x ∈ [q, bs', bo'], x ∉ mine p bs bo r lv
  far2 : ∀ x ∈ rblocks q2 lv' E, x ∉ mine p bs bo r lv
  new : ∀ x ∈ mine q bs' bo' q2 lv', w.heap.size ≤ x ∧ x < wc.heap.size
  sizes : w.heap.size ≤ wc.heap.size

theorem Pair.twin (P : Pair v0 M N w0 w p bs bo r lv n a dn S O E) {w6 w7 : World} {bs' bo' : Nat} {lv' : Value} (h1 : w.heap.size < bs') (h2 : w.heap.size < bo') (d6 : Dev w6 w.heap.size bs' bo' n a dn S O) (f6 : Fr [] w w6)
    (h3 : ∀ x, lv'.ownBlock = some x → w6.heap.size < x) (r7 : RDev w7 w6.heap.size lv' n a dn E) (f7 : Fr [] w6 w7) :
    Pair w7 (mine p bs bo r lv) (rblocks r lv E) w0 w7 p bs bo r lv n a dn S O E ∧ Pair w7 (mine w.heap.size bs' bo' w6.heap.size lv') (rblocks w6.heap.size lv' E) w0 w7 w.heap.size bs' bo' w6.heap.size lv' n a dn S O E ∧ Twin w0 w w7 p bs bo r lv E w.heap.size bs' bo' w6.heap.size lv' := by
  have hs0 := P.fr.size
  have hs6 := f6.size
  have hs7 := f7.size
  have l6 := d6.lt
  have P7 := (P.keep f6 (by simp)).keep f7 (by simp)
  have hold := mine_lt P
  have hents : ∀ e ∈ E, (e.lg < w.heap.size ∧ e.sg < w.heap.size) := fun e he => (P.rr.ents e he).lt
  have hlow : ∀ e ∈ E, w0.heap.size ≤ e.lg ∧ w0.heap.size ≤ e.sg := fun e he => ⟨P.rlo _ (mem_rblocks.2 (Or.inr (Or.inr ⟨e, he, Or.inl rfl⟩))), P.rlo _ (mem_rblocks.2 (Or.inr (Or.inr ⟨e, he, Or.inr rfl⟩)))⟩
  have hl7 := r7.lts
  have T : Twin w0 w w7 p bs bo r lv E w.heap.size bs' bo' w6.heap.size lv' := by
    refine ⟨?_, ?_, ?_, by omega⟩
    · intro x hx hm
      have := hold x hm
      simp at hx
      omega
    · intro x hx hm
      have hlt := hold x hm
      rw [mem_rblocks] at hx
      rcases hx with rfl | hx | ⟨e, he, hx⟩
      · omega
      · have := h3 x hx
        omega
      · have ha := P.rr.apart e he
        have hs1 := P.sep e.lg (mem_rblocks.2 (Or.inr (Or.inr ⟨e, he, Or.inl rfl⟩)))
        have hs2 := P.sep e.sg (mem_rblocks.2 (Or.inr (Or.inr ⟨e, he, Or.inr rfl⟩)))
        simp only [mine, List.mem_cons, Option.mem_toList] at hm
        rcases hx with rfl | rfl
        · rcases hm with h | h | h | h | h
          · exact hs1.1 h
          · exact hs1.2.1 h
          · exact hs1.2.2 h
          · exact ha.1 h
          · exact ha.2.2.1 h
        · rcases hm with h | h | h | h | h
          · exact hs2.1 h
          · exact hs2.2.1 h
          · exact hs2.2.2 h
          · exact ha.2.1 h
          · exact ha.2.2.2 h
    · intro x hx
      simp only [mine, List.mem_cons, Option.mem_toList] at hx
      rcases hx with rfl | rfl | rfl | rfl | hx
      · omega
      · omega
      · omega
      · have := r7.lt
        omega
      · have := h3 x hx
        have := hl7 x (mem_rblocks.2 (Or.inr (Or.inl hx)))
        omega
  refine ⟨P7.rebase, ⟨d6.kept f7 (by simp) (by simp) (by simp), r7, P.ag, ?_, by omega, ?_, P7.fr, fun x hx => Or.inl (by simp at hx; simp [mine]; omega), fun x hx => Or.inl (by simp only [mine, List.mem_cons] at hx ⊢; exact Or.inr (Or.inr (Or.inr hx))), Fr.refl _ _, fun x hx => Or.inl hx⟩, T⟩
  · intro x hx
    rw [mem_rblocks] at hx
    rcases hx with rfl | hx | ⟨e, he, hx⟩
    · omega
    · have := h3 x hx
      omega
    · have := hents e he
      omega
  · intro x hx
    rw [mem_rblocks] at hx
    rcases hx with rfl | hx | ⟨e, he, hx⟩
    · omega
    · have := h3 x hx
      omega
    · have := hlow e he
      omega

theorem Pair.start {w w1 w2 : World} {k : Int} (d1 : Dev w1 (w.heap.size + 2) w.heap.size (w.heap.size + 1) k 0 false Tab.none Tab.none) (f1 : Fr [] w w1) (r2 : RDev w2 w1.heap.size (.slice none 0 0) k 0 false []) (f2 : Fr [] w1 w2) :
    Pair w [] [] w w2 (w.heap.size + 2) w.heap.size (w.heap.size + 1) w1.heap.size (.slice none 0 0) k 0 false Tab.none Tab.none [] := by
  have hd := d1.lt
  have hs := f1.size
  have key : ∀ x ∈ rblocks w1.heap.size (.slice none 0 0) [], x = w1.heap.size := by
    intro x hx
    rw [mem_rblocks] at hx
    rcases hx with rfl | hx | ⟨e, he, _⟩
    · rfl
    · cases hx
    · cases he
  refine ⟨d1.kept f2 (by simp) (by simp) (by simp), r2, Agree.start, fun x hx => ?_, ⟨by omega, by omega, by omega⟩, fun x hx => ?_, f1.trans f2, fun x hx => Or.inr (by simp at hx; omega), fun x hx => Or.inr ?_, f1.trans f2, fun x hx => Or.inr ?_⟩
  · have := key x hx; exact ⟨by omega, by omega, by omega⟩
  · have := key x hx; omega
  · have := key x (own_in hx); omega
  · have := key x hx; omega
end

/-- Three lists of 512 bytes, one behind the other, lie apart. -/
theorem three_lists {w : World} {g1 g2 g3 : Nat} {x1 x2 x3 : Array Value} (h1 : w.heap[g1]? = some (.cells x1 5)) (h2 : w.heap[g2]? = some (.cells x2 5)) (h3 : w.heap[g3]? = some (.cells x3 5)) (s1 : x1.size = 512) (s2 : x2.size = 512) (s3 : x3.size = 512) (h12 : g1 < g2) (h23 : g2 < g3) :
    Ab.Lists (w.alloc (.cells #[.slice (some ⟨g1, 0, none⟩) 512 512, .slice (some ⟨g2, 0, none⟩) 512 512, .slice (some ⟨g3, 0, none⟩) 512 512] 38)) [g1, g2, g3] 3 w.heap.size (fun j => some ⟨if j = 0 then g1 else if j = 1 then g2 else g3, 0, none⟩) (fun _ => 512) (fun _ => 512) := by
  have l3 : g3 < w.heap.size := (Array.getElem?_eq_some_iff.1 h3).1
  have own : ∀ (g : Nat) (x : Array Value), w.heap[g]? = some (.cells x 5) → x.size = 512 → (w.alloc (.cells #[.slice (some ⟨g1, 0, none⟩) 512 512, .slice (some ⟨g2, 0, none⟩) 512 512, .slice (some ⟨g3, 0, none⟩) 512 512] 38)).ownsRow 0 5 1 (.slice (some ⟨g, 0, none⟩) 512 512) 512 x.toList := by
    intro g x hg hs
    refine ⟨by simpa using hs, Or.inr ⟨g, 512, x, rfl, Nat.zero_le _, ((Fr.refl [] w).alloc _).same (by simp) hg, Nat.le_refl _, by unfold maxLen; omega, by omega, ?_⟩⟩
    rw [List.take_of_length_le (by simp; omega)]
  refine ⟨by omega, fun _ _ => by omega, ?_, ?_, ?_, ?_, ?_⟩
  · intro j hj
    rw [cell_of_row _ _ _ _ _ _ (heap_alloc_new w _)]
    rcases (by omega : j = 0 ∨ j = 1 ∨ j = 2) with rfl | rfl | rfl <;> rfl
  · intro j hj
    rcases (by omega : j = 0 ∨ j = 1 ∨ j = 2) with rfl | rfl | rfl
    · exact ⟨x1.toList, by simpa using s1, own g1 x1 h1 s1⟩
    · exact ⟨x2.toList, by simpa using s2, own g2 x2 h2 s2⟩
    · exact ⟨x3.toList, by simpa using s3, own g3 x3 h3 s3⟩
  · intro i j hi hj hij g e1 e2
    have e1' : (if i = 0 then g1 else if i = 1 then g2 else g3) = g := by simpa [Value.ownBlock] using e1
    have e2' : (if j = 0 then g1 else if j = 1 then g2 else g3) = g := by simpa [Value.ownBlock] using e2
    rcases (by omega : i = 0 ∨ i = 1 ∨ i = 2) with rfl | rfl | rfl <;> rcases (by omega : j = 0 ∨ j = 1 ∨ j = 2) with rfl | rfl | rfl <;> simp at e1' e2' hij <;> omega
  · intro j hj g e1
    have e1' : (if j = 0 then g1 else if j = 1 then g2 else g3) = g := by simpa [Value.ownBlock] using e1
    rw [← e1']
    rcases (by omega : j = 0 ∨ j = 1 ∨ j = 2) with rfl | rfl | rfl <;> simp
  · simp
    omega

end Go.Proofs.Ytkenkgfohgmpnaa.C
