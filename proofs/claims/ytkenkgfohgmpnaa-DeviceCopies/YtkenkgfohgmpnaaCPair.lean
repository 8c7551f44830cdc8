/-
  The program's device and the document's side by side, while other devices stand beside them: what they write.
-/
import Derived.Test.YtkenkgfohgmpnaaSides
namespace Go.Proofs.Ytkenkgfohgmpnaa.C
open Go.RowKit Go.Maps

/-- What a call of the document's device leaves: its blocks are those that it had, and new ones; so is its list's. -/
def Grew (B : Nat) (r : Nat) (lv : Value) (E : List Ent) (lv' : Value) (E' : List Ent) : Prop := Go.Proofs.Ytkenkgfohgmpnaa.Grew B r lv E lv' E' ∧ ∀ x, lv'.ownBlock = some x → lv.ownBlock = some x ∨ B ≤ x
theorem Grew.refl (B r : Nat) (lv : Value) (E : List Ent) : Grew B r lv E lv E := ⟨Go.Proofs.Ytkenkgfohgmpnaa.Grew.refl _ _ _ _, fun _ h => Or.inl h⟩
theorem Grew.of {B r : Nat} {lv : Value} {E E' : List Ent} (h : Go.Proofs.Ytkenkgfohgmpnaa.Grew B r lv E lv E') : Grew B r lv E lv E' := ⟨h, fun _ h => Or.inl h⟩
theorem Grew.ents {B r : Nat} {lv lv' : Value} {E E' : List Ent} (hl : ∀ x, lv'.ownBlock = some x → lv.ownBlock = some x ∨ B ≤ x) (he : ∀ e' ∈ E', (∃ e ∈ E, (e'.lg = e.lg ∨ e'.lg = e.sg ∨ B ≤ e'.lg) ∧ (e'.sg = e.lg ∨ e'.sg = e.sg ∨ B ≤ e'.sg)) ∨ (B ≤ e'.lg ∧ B ≤ e'.sg)) : Grew B r lv E lv' E' := ⟨Go.Proofs.Ytkenkgfohgmpnaa.Grew.ents hl he, hl⟩

theorem rlo_grow {v0 : World} {M : List Nat} {B r : Nat} {lv lv' : Value} (h : ∀ x ∈ r :: lv.ownBlock.toList, x ∈ M ∨ v0.heap.size ≤ x) (gr : ∀ x, lv'.ownBlock = some x → lv.ownBlock = some x ∨ B ≤ x) (hB : v0.heap.size ≤ B) : ∀ x ∈ r :: lv'.ownBlock.toList, x ∈ M ∨ v0.heap.size ≤ x := by
  intro x hx
  simp at hx
  rcases hx with rfl | hx
  · exact h _ (by simp)
  · rcases gr x hx with h2 | h2
    · exact h x (by simp [h2])
    · exact Or.inr (by omega)
theorem all_grow {v0 : World} {N : List Nat} {B r : Nat} {lv lv' : Value} {E E' : List Ent} (h : ∀ x ∈ rblocks r lv E, x ∈ N ∨ v0.heap.size ≤ x) (gr : Go.Proofs.Ytkenkgfohgmpnaa.Grew B r lv E lv' E') (hB : v0.heap.size ≤ B) : ∀ x ∈ rblocks r lv' E', x ∈ N ∨ v0.heap.size ≤ x := by
  intro x hx
  rcases gr x hx with h2 | h2
  · exact h x h2
  · exact Or.inr (by omega)
theorem _root_.Go.Proofs.Ytkenkgfohgmpnaa.Fr.two {M L : List Nat} {a b c : World} (h : Fr M a b) (hL : ∀ x ∈ L, x ∈ M ∨ a.heap.size ≤ x) (k : Fr L b c) : Fr M a c :=
  h.then k (fun i hi hm => by rcases hL i hm with e | e; exact e; omega)

theorem rwrite_all {w : World} {r : Nat} {lv : Value} {n a : Int} {dn : Bool} {E : List Ent} (h : RDev w r lv n a dn E) (k : Int) (b off c m : Nat) (l : List UInt8) (hl : l.length = m) (hsrc : BytesAt w (some ⟨b, off, none⟩) l) (hb : b ∉ rblocks r lv E) :
    Calls Try.prog 34 #[.pointer (some ⟨r, 0, none⟩), .int .i64 k, .slice (some ⟨b, off, none⟩) m c] w fun e w' =>
      e = .returned (.int .i64 (wE n k dn m a)) ∧ (∃ lv' E', RDev w' r lv' n (wA (wDone n k dn m) a) (wD (wDone n k dn m) a dn) E' ∧ Grew w.heap.size r lv E lv' E' ∧ ∀ S O, Agree S O E → Agree S (wO (wDone n k dn m) O k l) E') ∧ Fr (r :: lv.ownBlock.toList) w w' := by
  by_cases hr : reached n k dn = 0
  · obtain ⟨rfl, h0, h1⟩ := reached_zero hr
    by_cases hm : m = 512
    · subst hm
      have hd : wDone n k false 512 = true := by simp [wDone, hr]
      simp only [wE, wA, wD, wO, hd, if_true]
      rcases has_block E k with ⟨i, en, hi, rfl⟩ | hno
      · refine (rwrite_at h i en hi h1 _ c l hl hsrc).mono ?_
        rintro e w' ⟨rfl, ⟨g, c', d', hg⟩, f'⟩
        refine ⟨rfl, ⟨lv, _, d', Grew.ents (fun x hx => Or.inl hx) ?_, fun S O ag => ag.write h.nd hi g c' l⟩, f'⟩
        intro x hx
        rcases List.mem_or_eq_of_mem_set hx with hx | rfl
        · exact Or.inl ⟨x, hx, Or.inl rfl, Or.inr (Or.inl rfl)⟩
        · exact Or.inl ⟨en, List.mem_of_getElem? hi, Or.inr (Or.inr hg), Or.inr (Or.inl rfl)⟩
      · refine (rwrite_no h k h0 h1 hno _ c l hl hsrc (fun b' o' he => by cases he; exact hb)).mono ?_
        rintro e w' ⟨rfl, ⟨lv', g, c', sg, d', hg, hsg, hlv⟩, f'⟩
        refine ⟨rfl, ⟨lv', _, d', Grew.ents hlv ?_, fun S O ag => ag.writeNew hno g c' sg l⟩, f'⟩
        intro x hx
        rcases List.mem_append.1 hx with hx | hx
        · exact Or.inl ⟨x, hx, Or.inl rfl, Or.inr (Or.inl rfl)⟩
        · simp at hx
          subst hx
          exact Or.inr ⟨hg, hsg⟩
    · have hd : wDone n k false m = false := by simp [wDone, hm]
      refine (rwrite_arg h k h0 h1 _ m c hm).mono ?_
      rintro e w' ⟨rfl, rfl⟩
      simp only [wE, wA, wD, wO, hd, hr]
      exact ⟨rfl, ⟨lv, E, h, Grew.refl _ _ _ _, fun S O ag => ag⟩, Fr.refl _ _⟩
  · have hb : (reached n k dn == 0) = false := by simpa using hr
    have hd : wDone n k dn m = false := by simp [wDone, hb]
    refine (rwrite_err h k _ hr).mono ?_
    rintro e w' ⟨rfl, rfl⟩
    simp only [wE, wA, wD, wO, hd, hb]
    exact ⟨rfl, ⟨lv, E, h, Grew.refl _ _ _ _, fun S O ag => ag⟩, Fr.refl _ _⟩

/-! ### side by side -/
structure Pair (v0 : World) (M N : List Nat) (w0 w : World) (p bs bo r : Nat) (lv : Value) (n a : Int) (dn : Bool) (S O : Tab) (E : List Ent) : Prop where
  d : Dev w p bs bo n a dn S O
  rr : RDev w r lv n a dn E
  ag : Agree S O E
  sep : ∀ x ∈ rblocks r lv E, x ≠ p ∧ x ≠ bs ∧ x ≠ bo
  lo : w0.heap.size ≤ p ∧ w0.heap.size ≤ bs ∧ w0.heap.size ≤ bo
  rlo : ∀ x ∈ rblocks r lv E, w0.heap.size ≤ x
  fr : Fr [] w0 w
  lo2 : ∀ x ∈ [p, bs, bo], x ∈ M ∨ v0.heap.size ≤ x
  rlo2 : ∀ x ∈ r :: lv.ownBlock.toList, x ∈ M ∨ v0.heap.size ≤ x
  fr2 : Fr M v0 w
  all : ∀ x ∈ rblocks r lv E, x ∈ N ∨ v0.heap.size ≤ x

def PairX (v0 : World) (M N : List Nat) (w0 w : World) (p bs bo r : Nat) (n : Int) : Prop := ∃ lv a dn S O E, Pair v0 M N w0 w p bs bo r lv n a dn S O E

theorem Pair.x {v0 w0 w : World} {M N : List Nat} {p bs bo r : Nat} {lv : Value} {n a : Int} {dn : Bool} {S O : Tab} {E : List Ent} (P : Pair v0 M N w0 w p bs bo r lv n a dn S O E) : PairX v0 M N w0 w p bs bo r n := ⟨lv, a, dn, S, O, E, P⟩

theorem Pair.keep {v0 w0 w w' : World} {M N : List Nat} {p bs bo r : Nat} {lv : Value} {n a : Int} {dn : Bool} {S O : Tab} {E : List Ent} (P : Pair v0 M N w0 w p bs bo r lv n a dn S O E) {L : List Nat} (k : Fr L w w') (hL : ∀ x ∈ L, w.heap.size ≤ x) : Pair v0 M N w0 w' p bs bo r lv n a dn S O E := by
  have hd := P.d.lt
  have hs := P.fr.size
  exact ⟨P.d.kept k (fun h => by have := hL _ h; omega) (fun h => by have := hL _ h; omega) (fun h => by have := hL _ h; omega),
    P.rr.kept k (fun x hx h => by have := hL _ h; have := P.rr.lts x hx; omega), P.ag, P.sep, P.lo, P.rlo, P.fr.then k (fun i hi h => by have := hL _ h; omega), P.lo2, P.rlo2, P.fr2.then k (fun i hi h => by have := hL _ h; have := P.fr2.size; omega), P.all⟩

/-- Behind a call of the program's device the document's is as it was. -/
theorem Pair.rd {v0 w0 w w1 : World} {M N : List Nat} {p bs bo r : Nat} {lv : Value} {n a : Int} {dn : Bool} {S O : Tab} {E : List Ent} (P : Pair v0 M N w0 w p bs bo r lv n a dn S O E) (f : Fr [p, bs, bo] w w1) : RDev w1 r lv n a dn E :=
  P.rr.kept f (fun x hx => by have := P.sep x hx; simp; exact this)
theorem Pair.dd {v0 w0 w w1 : World} {M N : List Nat} {p bs bo r : Nat} {lv : Value} {n a : Int} {dn : Bool} {S O : Tab} {E : List Ent} (P : Pair v0 M N w0 w p bs bo r lv n a dn S O E) (f : Fr (r :: lv.ownBlock.toList) w w1) : Dev w1 p bs bo n a dn S O :=
  P.d.kept f (fun h => (P.sep _ (own_in h)).1 rfl) (fun h => (P.sep _ (own_in h)).2.1 rfl) (fun h => (P.sep _ (own_in h)).2.2 rfl)

theorem Pair.move {v0 w0 w w1 w2 : World} {M N : List Nat} {p bs bo r : Nat} {lv lv' : Value} {n a a' : Int} {dn dn' : Bool} {S O S' O' : Tab} {E E' : List Ent} (P : Pair v0 M N w0 w p bs bo r lv n a dn S O E)
    (d1 : Dev w1 p bs bo n a' dn' S' O') (f1 : Fr [p, bs, bo] w w1) (r2 : RDev w2 r lv' n a' dn' E') (f2 : Fr (r :: lv.ownBlock.toList) w1 w2) (gr : Grew w1.heap.size r lv E lv' E') (ag : Agree S' O' E') : Pair v0 M N w0 w2 p bs bo r lv' n a' dn' S' O' E' := by
  have hd := d1.lt
  have hs := P.fr.size
  have hs1 := f1.size
  refine ⟨d1.kept f2 (fun h => (P.sep _ (own_in h)).1 rfl) (fun h => (P.sep _ (own_in h)).2.1 rfl) (fun h => (P.sep _ (own_in h)).2.2 rfl), r2, ag, fun x hx => ?_, P.lo, fun x hx => ?_, ?_, P.lo2, rlo_grow P.rlo2 gr.2 (by have := P.fr2.size; omega), (P.fr2.two P.lo2 f1).two P.rlo2 f2, all_grow P.all gr.1 (by have := P.fr2.size; omega)⟩
  · rcases gr.1 x hx with h | h
    · exact P.sep x h
    · exact ⟨by omega, by omega, by omega⟩
  · rcases gr.1 x hx with h | h
    · exact P.rlo x h
    · omega
  · refine (P.fr.then f1 (fun i hi h => ?_)).then f2 (fun i hi h => ?_)
    · have := P.lo
      simp at h
      omega
    · have := P.rlo i (own_in h)
      omega

theorem Pair.move' {v0 w0 w w1 w2 : World} {M N : List Nat} {p bs bo r : Nat} {lv lv' : Value} {n a a' : Int} {dn dn' : Bool} {S O S' O' : Tab} {E E' : List Ent} (P : Pair v0 M N w0 w p bs bo r lv n a dn S O E)
    (r1 : RDev w1 r lv' n a' dn' E') (f1 : Fr (r :: lv.ownBlock.toList) w w1) (gr : Grew w.heap.size r lv E lv' E') (d2 : Dev w2 p bs bo n a' dn' S' O') (f2 : Fr [p, bs, bo] w1 w2) (ag : Agree S' O' E') : Pair v0 M N w0 w2 p bs bo r lv' n a' dn' S' O' E' := by
  have hd := P.d.lt
  have hs := P.fr.size
  have hs1 := f1.size
  have sep : ∀ x ∈ rblocks r lv' E', x ≠ p ∧ x ≠ bs ∧ x ≠ bo := by
    intro x hx
    rcases gr.1 x hx with h | h
    · exact P.sep x h
    · exact ⟨by omega, by omega, by omega⟩
  refine ⟨d2, r1.kept f2 (fun x hx => by have := sep x hx; simp; exact this), ag, sep, P.lo, fun x hx => ?_, ?_, P.lo2, rlo_grow P.rlo2 gr.2 (by have := P.fr2.size; omega), (P.fr2.two P.rlo2 f1).two P.lo2 f2, all_grow P.all gr.1 (by have := P.fr2.size; omega)⟩
  · rcases gr.1 x hx with h | h
    · exact P.rlo x h
    · omega
  · refine (P.fr.then f1 (fun i hi h => ?_)).then f2 (fun i hi h => ?_)
    · have := P.rlo i (own_in h)
      omega
    · have := P.lo
      simp at h
      omega

end Go.Proofs.Ytkenkgfohgmpnaa.C
