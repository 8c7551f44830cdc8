/-
  The program's device and the document's, side by side: they agree.
-/
import Derived.Test.YtkenkgfohgmpnaaRWake
namespace Go.Proofs.Ytkenkgfohgmpnaa
open Go.RowKit Go.Maps

structure Agree (S O : Tab) (E : List Ent) : Prop where
  opn : ∀ e ∈ E, e.o = true → O e.n = some e.l
  shut : ∀ e ∈ E, e.o = false → O e.n = none ∧ e.l = e.s
  safe : ∀ e ∈ E, S.get e.n = e.s
  no : ∀ k, (∀ e ∈ E, e.n ≠ k) → O k = none ∧ S.get k = zeros

theorem Agree.start : Agree Tab.none Tab.none [] := ⟨by simp, by simp, by simp, fun k _ => ⟨rfl, rfl⟩⟩

theorem Agree.latest {S O : Tab} {E : List Ent} (h : Agree S O E) {e : Ent} (he : e ∈ E) : latest S O e.n = e.l := by
  unfold Ytkenkgfohgmpnaa.latest
  cases ho : e.o
  · obtain ⟨h1, h2⟩ := h.shut e he ho
    rw [h1, h2]
    exact h.safe e he
  · rw [h.opn e he ho]
    rfl
theorem Agree.latest_no {S O : Tab} {E : List Ent} (h : Agree S O E) {k : Int} (hk : ∀ e ∈ E, e.n ≠ k) : Ytkenkgfohgmpnaa.latest S O k = zeros := by
  obtain ⟨h1, h2⟩ := h.no k hk
  unfold Ytkenkgfohgmpnaa.latest
  rw [h1]
  exact h2

theorem Agree.sync {S O : Tab} {E : List Ent} (h : Agree S O E) : Agree (over S O) Tab.none (E.map Ent.sync) := by
  refine ⟨?_, ?_, ?_, ?_⟩
  · intro e he ho
    obtain ⟨x, hx, rfl⟩ := List.mem_map.1 he
    cases ho
  · intro e he _
    obtain ⟨x, hx, rfl⟩ := List.mem_map.1 he
    exact ⟨rfl, rfl⟩
  · intro e he
    obtain ⟨x, hx, rfl⟩ := List.mem_map.1 he
    show (over S O).get x.n = x.l
    unfold Tab.get over
    cases ho : x.o
    · obtain ⟨h1, h2⟩ := h.shut x hx ho
      rw [h1, h2]
      simpa [Tab.get] using h.safe x hx
    · rw [h.opn x hx ho]
      rfl
  · intro k hk
    obtain ⟨h1, h2⟩ := h.no k (fun e he => hk e.sync (List.mem_map_of_mem he))
    refine ⟨rfl, ?_⟩
    unfold Tab.get over
    rw [h1]
    simpa [Tab.get] using h2

theorem WokeTo.mem {B : Nat} {F : Fs} {E E' : List Ent} (h : WokeTo B F E E' E.length) {e' : Ent} (he : e' ∈ E') : ∃ e ∈ E, Woke B F e e' := by
  obtain ⟨q, hq, rfl⟩ := List.getElem_of_mem he
  have hq' : q < E.length := by rw [← h.len]; exact hq
  obtain ⟨x, hx, hw⟩ := h.low q E[q] hq' (List.getElem?_eq_getElem hq')
  rw [List.getElem?_eq_getElem hq] at hx
  cases hx
  exact ⟨_, List.getElem_mem hq', hw⟩
theorem WokeTo.mem' {B : Nat} {F : Fs} {E E' : List Ent} (h : WokeTo B F E E' E.length) {e : Ent} (he : e ∈ E) : ∃ e' ∈ E', Woke B F e e' := by
  obtain ⟨q, hq, rfl⟩ := List.getElem_of_mem he
  obtain ⟨x, hx, hw⟩ := h.low q E[q] hq (List.getElem?_eq_getElem hq)
  exact ⟨x, List.mem_of_getElem? hx, hw⟩
theorem Woke.n {B : Nat} {F : Fs} {e e' : Ent} (h : Woke B F e e') : e'.n = e.n := by
  rcases h with ⟨_, rfl⟩ | ⟨_, g, c, _, rfl⟩ <;> rfl

theorem Agree.wake {S O : Tab} {E E' : List Ent} (h : Agree S O E) {B : Nat} {F : Fs} (hw : WokeTo B F E E' E.length) : Agree (wokenAt S O F) Tab.none E' := by
  have hget : ∀ e e', e ∈ E → Woke B F e e' → (wokenAt S O F).get e'.n = e'.s ∧ e'.l = e'.s ∧ e'.o = false := by
    intro e e' he hwk
    rcases hwk with ⟨ho, rfl⟩ | ⟨ho, g, c, _, rfl⟩
    · obtain ⟨h1, h2⟩ := h.shut _ he ho
      refine ⟨?_, h2, ho⟩
      have := h.safe _ he
      unfold Tab.get wokenAt
      rw [h1]
      simpa [Tab.get] using this
    · have hsf := h.safe e he
      have : wokenAt S O F e.n = some (tornTo (S.get e.n) e.l (keepOf F e.n) 8) := by simp only [wokenAt, h.opn e he ho]
      have e1 : (wokenAt S O F).get e.n = wokenB F e := by rw [Tab.get, this, Option.getD_some, hsf, wokenB]
      generalize wokenB F e = T at e1
      exact ⟨e1, rfl, rfl⟩
  refine ⟨?_, ?_, ?_, ?_⟩
  · intro e' he' ho
    obtain ⟨e, he, hwk⟩ := hw.mem he'
    rw [(hget e e' he hwk).2.2] at ho
    cases ho
  · intro e' he' _
    obtain ⟨e, he, hwk⟩ := hw.mem he'
    exact ⟨rfl, (hget e e' he hwk).2.1⟩
  · intro e' he'
    obtain ⟨e, he, hwk⟩ := hw.mem he'
    exact (hget e e' he hwk).1
  · intro k hk
    obtain ⟨h1, h2⟩ := h.no k (fun e he => by
      obtain ⟨e', he', hwk⟩ := hw.mem' he
      rw [← hwk.n]
      exact hk e' he')
    refine ⟨rfl, ?_⟩
    unfold Tab.get wokenAt
    rw [h1]
    simpa [Tab.get] using h2

theorem Agree.write {S O : Tab} {E : List Ent} (h : Agree S O E) (nd : (E.map Ent.n).Nodup) {i : Nat} {en : Ent} (hi : E[i]? = some en) (g c : Nat) (l : List UInt8) : Agree S (O.put en.n l) (E.set i (en.write g c l)) := by
  have hlt := (List.getElem?_eq_some_iff.1 hi).1
  have hother : ∀ x ∈ E.set i (en.write g c l), x = en.write g c l ∨ (x ∈ E ∧ x.n ≠ en.n) := by
    intro x hx
    obtain ⟨q, hq, rfl⟩ := List.getElem_of_mem hx
    by_cases hqi : q = i
    · subst hqi
      left
      simp
    · right
      have hq' : q < E.length := by simpa using hq
      have e : (E.set i (en.write g c l))[q] = E[q] := by rw [List.getElem_set_ne (by omega)]
      rw [e]
      refine ⟨List.getElem_mem hq', fun hn => hqi ?_⟩
      have := (List.getElem?_inj (i := q) (j := i) (by simpa using hq') nd).1 (by simp [hi, hn, List.getElem?_eq_getElem hq'])
      exact this
  refine ⟨?_, ?_, ?_, ?_⟩
  · intro x hx ho
    rcases hother x hx with rfl | ⟨hx, hn⟩
    · simp [Tab.put, Ent.write]
    · simp only [Tab.put, if_neg hn]
      exact h.opn x hx ho
  · intro x hx ho
    rcases hother x hx with rfl | ⟨hx, hn⟩
    · cases ho
    · simp only [Tab.put, if_neg hn]
      exact h.shut x hx ho
  · intro x hx
    rcases hother x hx with rfl | ⟨hx, hn⟩
    · exact h.safe en (List.mem_of_getElem? hi)
    · exact h.safe x hx
  · intro k hk
    have hkn : k ≠ en.n := by
      have := hk (en.write g c l) (List.mem_of_getElem? (set_at hi _))
      exact fun e => this e.symm
    simp only [Tab.put, if_neg hkn]
    refine h.no k (fun e he => ?_)
    by_cases hen : e.n = en.n
    · rw [hen]
      exact fun x => hkn x.symm
    · obtain ⟨q, hq, rfl⟩ := List.getElem_of_mem he
      have hqi : q ≠ i := by
        rintro rfl
        rw [List.getElem?_eq_getElem hq] at hi
        cases hi
        exact hen rfl
      have : (E.set i (en.write g c l))[q]? = some E[q] := by rw [List.getElem?_set_ne (by omega), List.getElem?_eq_getElem hq]
      exact hk _ (List.mem_of_getElem? this)

theorem Agree.writeNew {S O : Tab} {E : List Ent} (h : Agree S O E) {k : Int} (hk : ∀ e ∈ E, e.n ≠ k) (g c sg : Nat) (l : List UInt8) : Agree S (O.put k l) (E ++ [⟨k, g, c, l, sg, 512, zeros, true⟩]) := by
  have hz := (h.no k hk).2
  refine ⟨?_, ?_, ?_, ?_⟩
  · intro x hx ho
    rcases List.mem_append.1 hx with hx | hx
    · simp only [Tab.put, if_neg (hk x hx)]
      exact h.opn x hx ho
    · simp at hx
      subst hx
      simp [Tab.put]
  · intro x hx ho
    rcases List.mem_append.1 hx with hx | hx
    · simp only [Tab.put, if_neg (hk x hx)]
      exact h.shut x hx ho
    · simp at hx
      subst hx
      cases ho
  · intro x hx
    rcases List.mem_append.1 hx with hx | hx
    · exact h.safe x hx
    · simp at hx
      subst hx
      exact hz
  · intro j hj
    have hjk : j ≠ k := fun e => hj ⟨k, g, c, l, sg, 512, zeros, true⟩ (by simp) e.symm
    simp only [Tab.put, if_neg hjk]
    exact h.no j (fun e he => hj e (by simp [he]))

/-! ### Write, whatever it answers -/
def wDone (n k : Int) (dn : Bool) (m : Nat) : Bool := reached n k dn == 0 && m == 512
def wE (n k : Int) (dn : Bool) (m : Nat) (a : Int) : Int := if wDone n k dn m then told (crash a) else if reached n k dn == 0 then 2 else reached n k dn
def wA (b : Bool) (a : Int) : Int := if b then left a else a
def wD (b : Bool) (a : Int) (dn : Bool) : Bool := if b then crash a else dn
def wO (b : Bool) (O : Tab) (k : Int) (l : List UInt8) : Tab := if b then O.put k l else O

theorem reached_zero {n k : Int} {dn : Bool} (h : reached n k dn = 0) : dn = false ∧ 0 ≤ k ∧ k < n := by
  unfold reached at h
  cases dn
  · simp at h
    exact ⟨rfl, h.1, h.2⟩
  · simp at h

theorem write_all {w : World} {p bs bo : Nat} {n a : Int} {dn : Bool} {S O : Tab} (h : Dev w p bs bo n a dn S O) (k : Int) (b off c m : Nat) (l : List UInt8) (hl : l.length = m) (hsrc : Src w b off l) :
    Calls Try.prog 27 #[.pointer (some ⟨p, 0, none⟩), .int .i64 k, .slice (some ⟨b, off, none⟩) m c] w fun e w' =>
      e = .returned (.int .i64 (wE n k dn m a)) ∧ Dev w' p bs bo n (wA (wDone n k dn m) a) (wD (wDone n k dn m) a dn) S (wO (wDone n k dn m) O k l) ∧ Fr [p, bo] w w' := by
  by_cases hr : reached n k dn = 0
  · obtain ⟨rfl, h0, h1⟩ := reached_zero hr
    by_cases hm : m = 512
    · subst hm
      have hd : wDone n k false 512 = true := by simp [wDone, hr]
      simp only [wE, wA, wD, wO, hd, if_true]
      exact write_dev h k h0 h1 b off c l hl hsrc
    · have hd : wDone n k false m = false := by simp [wDone, hm]
      refine (write_arg h k h0 h1 _ m c hm).mono ?_
      rintro e w' ⟨rfl, rfl⟩
      simp only [wE, wA, wD, wO, hd, hr]
      exact ⟨rfl, h, Fr.refl _ _⟩
  · have hb : (reached n k dn == 0) = false := by simpa using hr
    have hd : wDone n k dn m = false := by simp [wDone, hb]
    refine (write_err h k _ hr).mono ?_
    rintro e w' ⟨rfl, rfl⟩
    simp only [wE, wA, wD, wO, hd, hb]
    exact ⟨rfl, h, Fr.refl _ _⟩

/-- Whether the document's device has the block. -/
theorem has_block (E : List Ent) (k : Int) : (∃ (i : Nat) (en : Ent), E[i]? = some en ∧ en.n = k) ∨ (∀ en ∈ E, en.n ≠ k) := by
  by_cases h : ∃ en ∈ E, en.n = k
  · obtain ⟨en, he, hk⟩ := h
    obtain ⟨i, hi, rfl⟩ := List.getElem_of_mem he
    exact Or.inl ⟨i, _, List.getElem?_eq_getElem hi, hk⟩
  · exact Or.inr fun en he hk => h ⟨en, he, hk⟩

/-- What a call of the document's device leaves: its blocks are those that it had, and new ones. -/
def Grew (B : Nat) (r : Nat) (lv : Value) (E : List Ent) (lv' : Value) (E' : List Ent) : Prop := ∀ x ∈ rblocks r lv' E', x ∈ rblocks r lv E ∨ B ≤ x

theorem mem_rblocks {r : Nat} {lv : Value} {E : List Ent} {x : Nat} : x ∈ rblocks r lv E ↔ x = r ∨ lv.ownBlock = some x ∨ ∃ e ∈ E, x = e.lg ∨ x = e.sg := by
  simp only [rblocks, List.mem_cons, List.mem_append, List.mem_flatMap, Option.mem_toList, List.not_mem_nil, or_false]

theorem Grew.refl (B r : Nat) (lv : Value) (E : List Ent) : Grew B r lv E lv E := fun _ hx => Or.inl hx

theorem Grew.ents {B r : Nat} {lv lv' : Value} {E E' : List Ent} (hl : ∀ x, lv'.ownBlock = some x → lv.ownBlock = some x ∨ B ≤ x) (he : ∀ e' ∈ E', (∃ e ∈ E, (e'.lg = e.lg ∨ e'.lg = e.sg ∨ B ≤ e'.lg) ∧ (e'.sg = e.lg ∨ e'.sg = e.sg ∨ B ≤ e'.sg)) ∨ (B ≤ e'.lg ∧ B ≤ e'.sg)) : Grew B r lv E lv' E' := by
  intro x hx
  rw [mem_rblocks] at hx ⊢
  rcases hx with rfl | hx | ⟨e', he', hx⟩
  · exact Or.inl (Or.inl rfl)
  · rcases hl x hx with h | h
    · exact Or.inl (Or.inr (Or.inl h))
    · exact Or.inr h
  · rcases he e' he' with ⟨e, hm, h1, h2⟩ | ⟨h1, h2⟩
    · rcases hx with rfl | rfl
      · rcases h1 with h | h | h
        · exact Or.inl (Or.inr (Or.inr ⟨e, hm, Or.inl h⟩))
        · exact Or.inl (Or.inr (Or.inr ⟨e, hm, Or.inr h⟩))
        · exact Or.inr h
      · rcases h2 with h | h | h
        · exact Or.inl (Or.inr (Or.inr ⟨e, hm, Or.inl h⟩))
        · exact Or.inl (Or.inr (Or.inr ⟨e, hm, Or.inr h⟩))
        · exact Or.inr h
    · rcases hx with rfl | rfl
      · exact Or.inr h1
      · exact Or.inr h2

theorem rwrite_all {w : World} {r : Nat} {lv : Value} {n a : Int} {dn : Bool} {E : List Ent} (h : RDev w r lv n a dn E) (k : Int) (b off c m : Nat) (l : List UInt8) (hl : l.length = m) (hsrc : BytesAt w (some ⟨b, off, none⟩) l) (hb : b ∉ rblocks r lv E) :
    Calls Try.prog 34 #[.pointer (some ⟨r, 0, none⟩), .int .i64 k, .slice (some ⟨b, off, none⟩) m c] w fun e w' =>
      e = .returned (.int .i64 (wE n k dn m a)) ∧ (∃ lv' E', RDev w' r lv' n (wA (wDone n k dn m) a) (wD (wDone n k dn m) a dn) E' ∧ Grew w.heap.size r lv E lv' E' ∧ ∀ S O, Agree S O E → Agree S (wO (wDone n k dn m) O k l) E') ∧ Fr (r :: lv.ownBlock.toList) w w' := by
  by_cases hr : reached n k dn = 0
  · obtain ⟨rfl, h0, h1⟩ := reached_zero hr
    by_cases hm : m = 512
    · subst hm
      have hd : wDone n k false 512 = true := by simp [wDone, hr]
      simp only [wE, wA, wD, wO, hd, if_true]
      rcases has_block E k with ⟨i, en, hi, rfl⟩ | hno
      · refine (rwrite_at h i en hi h1 _ c l hl hsrc).mono ?_
        rintro e w' ⟨rfl, ⟨g, c', d', hg⟩, f'⟩
        refine ⟨rfl, ⟨lv, _, d', Grew.ents (fun x hx => Or.inl hx) ?_, fun S O ag => ag.write h.nd hi g c' l⟩, f'⟩
        intro x hx
        rcases List.mem_or_eq_of_mem_set hx with hx | rfl
        · exact Or.inl ⟨x, hx, Or.inl rfl, Or.inr (Or.inl rfl)⟩
        · exact Or.inl ⟨en, List.mem_of_getElem? hi, Or.inr (Or.inr hg), Or.inr (Or.inl rfl)⟩
      · refine (rwrite_no h k h0 h1 hno _ c l hl hsrc (fun b' o' he => by cases he; exact hb)).mono ?_
        rintro e w' ⟨rfl, ⟨lv', g, c', sg, d', hg, hsg, hlv⟩, f'⟩
        refine ⟨rfl, ⟨lv', _, d', Grew.ents hlv ?_, fun S O ag => ag.writeNew hno g c' sg l⟩, f'⟩
        intro x hx
        rcases List.mem_append.1 hx with hx | hx
        · exact Or.inl ⟨x, hx, Or.inl rfl, Or.inr (Or.inl rfl)⟩
        · simp at hx
          subst hx
          exact Or.inr ⟨hg, hsg⟩
    · have hd : wDone n k false m = false := by simp [wDone, hm]
      refine (rwrite_arg h k h0 h1 _ m c hm).mono ?_
      rintro e w' ⟨rfl, rfl⟩
      simp only [wE, wA, wD, wO, hd, hr]
      exact ⟨rfl, ⟨lv, E, h, Grew.refl _ _ _ _, fun S O ag => ag⟩, Fr.refl _ _⟩
  · have hb : (reached n k dn == 0) = false := by simpa using hr
    have hd : wDone n k dn m = false := by simp [wDone, hb]
    refine (rwrite_err h k _ hr).mono ?_
    rintro e w' ⟨rfl, rfl⟩
    simp only [wE, wA, wD, wO, hd, hb]
    exact ⟨rfl, ⟨lv, E, h, Grew.refl _ _ _ _, fun S O ag => ag⟩, Fr.refl _ _⟩

end Go.Proofs.Ytkenkgfohgmpnaa
