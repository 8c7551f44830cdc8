/-
  Each call of the program's device and of the document's, whatever it answers; the two side by side.
-/
import Derived.Test.YtkenkgfohgmpnaaPair
namespace Go.Proofs.Ytkenkgfohgmpnaa
open Go.RowKit Go.Maps

/-! ### Sync -/
def sB (a : Int) (dn : Bool) : Bool := !dn && !crash a
def sS (b : Bool) (S O : Tab) : Tab := if b then over S O else S
def sO (b : Bool) (O : Tab) : Tab := if b then Tab.none else O

theorem sync_all {w : World} {p bs bo : Nat} {n a : Int} {dn : Bool} {S O : Tab} (h : Dev w p bs bo n a dn S O) :
    Calls Try.prog 30 #[.pointer (some ⟨p, 0, none⟩)] w fun e w' => e = .returned (.int .i64 (stE a dn)) ∧ Dev w' p bs bo n (stA a dn) (stD a dn) (sS (sB a dn) S O) (sO (sB a dn) O) ∧ Fr [p, bs, bo] w w' := by
  cases dn
  · cases hc : crash a
    · have hb : sB a false = true := by simp [sB, hc]
      refine (sync_dev h hc).mono ?_
      rintro e w' ⟨rfl, d, f⟩
      rw [hb]
      exact ⟨by simp [stE, hc, told], by simpa [stA, stD, hc, sS, sO] using d, f⟩
    · have hb : sB a false = false := by simp [sB, hc]
      refine (sync_crash h hc).mono ?_
      rintro e w' ⟨rfl, d, f⟩
      rw [hb]
      exact ⟨by simp [stE, hc, told], by simpa [stA, stD, hc, sS, sO] using d, f.mono (fun i _ hm => by simp at hm ⊢; exact Or.inl hm)⟩
  · refine (sync_down h).mono ?_
    rintro e w' ⟨rfl, rfl⟩
    exact ⟨by simp [stE], by simpa [stA, stD, sB, sS, sO] using h, Fr.refl _ _⟩

theorem rsync_all {w : World} {r : Nat} {lv : Value} {n a : Int} {dn : Bool} {E : List Ent} (h : RDev w r lv n a dn E) :
    Calls Try.prog 37 #[.pointer (some ⟨r, 0, none⟩)] w fun e w' => e = .returned (.int .i64 (stE a dn)) ∧
      (∃ E', RDev w' r lv n (stA a dn) (stD a dn) E' ∧ Grew w.heap.size r lv E lv E' ∧ ∀ S O, Agree S O E → Agree (sS (sB a dn) S O) (sO (sB a dn) O) E') ∧ Fr (r :: lv.ownBlock.toList) w w' := by
  cases dn
  · cases hc : crash a
    · have hb : sB a false = true := by simp [sB, hc]
      refine (rsync_dev h hc).mono ?_
      rintro e w' ⟨rfl, d, f⟩
      rw [hb]
      refine ⟨by simp [stE, hc, told], ⟨_, by simpa [stA, stD, hc] using d, Grew.ents (fun x hx => Or.inl hx) ?_, fun S O ag => by simpa [sS, sO] using ag.sync⟩, f⟩
      intro x hx
      obtain ⟨y, hy, rfl⟩ := List.mem_map.1 hx
      exact Or.inl ⟨y, hy, Or.inl rfl, Or.inl rfl⟩
    · have hb : sB a false = false := by simp [sB, hc]
      refine (rsync_crash h hc).mono ?_
      rintro e w' ⟨rfl, d, f⟩
      rw [hb]
      exact ⟨by simp [stE, hc, told], ⟨E, by simpa [stA, stD, hc] using d, Grew.refl _ _ _ _, fun S O ag => by simpa [sS, sO] using ag⟩, f.mono (fun i _ hm => by simp at hm ⊢; exact Or.inl hm)⟩
  · refine (rsync_down h).mono ?_
    rintro e w' ⟨rfl, rfl⟩
    exact ⟨by simp [stE], ⟨E, by simpa [stA, stD] using h, Grew.refl _ _ _ _, fun S O ag => by simpa [sB, sS, sO] using ag⟩, Fr.refl _ _⟩

/-! ### Arm -/
def aA (dn : Bool) (a k : Int) : Int := if dn then a else armed k
theorem arm_all {w : World} {p bs bo : Nat} {n a : Int} {dn : Bool} {S O : Tab} (h : Dev w p bs bo n a dn S O) (k : Int) (hk : k < 9223372036854775808) :
    Calls Try.prog 29 #[.pointer (some ⟨p, 0, none⟩), .int .i64 k] w fun e w' => e = .returned (.tuple #[]) ∧ Dev w' p bs bo n (aA dn a k) dn S O ∧ Fr [p, bs, bo] w w' := by
  cases dn
  · refine (arm_dev h k hk).mono ?_
    rintro e w' ⟨rfl, d, f⟩
    exact ⟨rfl, by simpa [aA] using d, f.mono (fun i _ hm => by simp at hm ⊢; exact Or.inl hm)⟩
  · refine (arm_down h k).mono ?_
    rintro e w' ⟨rfl, rfl⟩
    exact ⟨rfl, by simpa [aA] using h, Fr.refl _ _⟩
theorem rarm_all {w : World} {r : Nat} {lv : Value} {n a : Int} {dn : Bool} {E : List Ent} (h : RDev w r lv n a dn E) (k : Int) (hk : k < 9223372036854775808) :
    Calls Try.prog 38 #[.pointer (some ⟨r, 0, none⟩), .int .i64 k] w fun e w' => e = .returned (.tuple #[]) ∧ RDev w' r lv n (aA dn a k) dn E ∧ Fr (r :: lv.ownBlock.toList) w w' := by
  cases dn
  · refine (rarm h k hk).mono ?_
    rintro e w' ⟨rfl, d, f⟩
    exact ⟨rfl, by simpa [aA] using d, f.mono (fun i _ hm => by simp at hm ⊢; exact Or.inl hm)⟩
  · refine (rarm_down h k).mono ?_
    rintro e w' ⟨rfl, rfl⟩
    exact ⟨rfl, by simpa [aA] using h, Fr.refl _ _⟩

/-! ### Read -/
def rL (n k : Int) (dn : Bool) (S O : Tab) : List UInt8 := if reached n k dn == 0 then latest S O k else []
theorem latest_length {w : World} {p bs bo : Nat} {n a : Int} {dn : Bool} {S O : Tab} (h : Dev w p bs bo n a dn S O) (k : Int) : (latest S O k).length = 512 := by
  unfold latest
  cases ho : O k with
  | none => exact h.safe.get_length k
  | some l =>
    obtain ⟨D, _, hs⟩ := h.opn
    exact hs.len k l ho

theorem read_all {w : World} {p bs bo : Nat} {n a : Int} {dn : Bool} {S O : Tab} (h : Dev w p bs bo n a dn S O) (k : Int) :
    Calls Try.prog 21 #[.pointer (some ⟨p, 0, none⟩), .int .i64 k] w fun e w' => ∃ ad c, e = .returned (.tuple #[.slice ad (rL n k dn S O).length c, .int .i64 (reached n k dn)]) ∧ BytesAt w' ad (rL n k dn S O) ∧ Fr [] w w' := by
  by_cases hr : reached n k dn = 0
  · obtain ⟨rfl, h0, h1⟩ := reached_zero hr
    have e1 : rL n k false S O = latest S O k := by simp [rL, hr]
    rw [e1, latest_length h k, hr]
    refine (read_dev h k h0 h1).mono ?_
    rintro e w' ⟨g, rfl, b, _, f⟩
    exact ⟨_, _, rfl, b.bytes, f⟩
  · have e1 : rL n k dn S O = [] := by simp [rL, hr]
    rw [e1]
    refine (read_err h k hr).mono ?_
    rintro e w' ⟨rfl, rfl⟩
    exact ⟨none, 0, rfl, BytesAt.nil _ _, Fr.refl _ _⟩

theorem rread_all {w : World} {r : Nat} {lv : Value} {n a : Int} {dn : Bool} {E : List Ent} {S O : Tab} (h : RDev w r lv n a dn E) (ag : Agree S O E) (k : Int) :
    Calls Try.prog 39 #[.pointer (some ⟨r, 0, none⟩), .int .i64 k] w fun e w' => ∃ ad c, e = .returned (.tuple #[.slice ad (rL n k dn S O).length c, .int .i64 (reached n k dn)]) ∧ BytesAt w' ad (rL n k dn S O) ∧ Fr [] w w' := by
  by_cases hr : reached n k dn = 0
  · obtain ⟨rfl, h0, h1⟩ := reached_zero hr
    have e1 : rL n k false S O = latest S O k := by simp [rL, hr]
    rw [e1, hr]
    rcases has_block E k with ⟨i, en, hi, rfl⟩ | hno
    · have hm := List.mem_of_getElem? hi
      rw [ag.latest hm, (h.ents en hm).l5]
      refine (rread_at h i en hi h1).mono ?_
      rintro e w' ⟨g, c, rfl, b, f⟩
      exact ⟨_, _, rfl, b, f⟩
    · rw [ag.latest_no hno, zeros_length]
      refine (rread_no h k h0 h1 hno).mono ?_
      rintro e w' ⟨g, c, rfl, b, f⟩
      exact ⟨_, _, rfl, b, f⟩
  · have e1 : rL n k dn S O = [] := by simp [rL, hr]
    rw [e1]
    refine (rread_err h k hr).mono ?_
    rintro e w' ⟨rfl, rfl⟩
    exact ⟨none, 0, rfl, BytesAt.nil _ _, Fr.refl _ _⟩

/-! ### Wake -/
theorem rwake_all {w : World} {r : Nat} {lv : Value} {n a : Int} {dn : Bool} {E : List Ent} (h : RDev w r lv n a dn E) (F : Fs) (ad : Option Addr) (c : Nat) (hF : FatesAt w ad F) (hlen : F.length ≤ 1000000)
    (hFk : ∀ w', Fr (r :: lv.ownBlock.toList) w w' → FatesAt w' ad F) :
    Calls Try.prog 17 #[.pointer (some ⟨r, 0, none⟩), .slice ad F.length c] w fun e w' => e = .returned (.tuple #[]) ∧
      (∃ E', RDev w' r lv n 0 false E' ∧ Grew w.heap.size r lv E lv E' ∧ ∀ S O, Agree S O E → Agree (wokenAt S O F) Tab.none E') ∧ Fr (r :: lv.ownBlock.toList) w w' := by
  refine (rwake h F ad c hF hlen hFk).mono ?_
  rintro e w' ⟨rfl, ⟨E', d, wk⟩, f⟩
  refine ⟨rfl, ⟨E', d, Grew.ents (fun x hx => Or.inl hx) ?_, fun S O ag => ag.wake wk⟩, f⟩
  intro x hx
  obtain ⟨y, hy, hw⟩ := wk.mem hx
  rcases hw with ⟨_, rfl⟩ | ⟨_, g, c, hg, rfl⟩
  · exact Or.inl ⟨x, hy, Or.inl rfl, Or.inr (Or.inl rfl)⟩
  · exact Or.inr ⟨hg, hg⟩

/-! ### side by side -/
structure Pair (w0 w : World) (p bs bo r : Nat) (lv : Value) (n a : Int) (dn : Bool) (S O : Tab) (E : List Ent) : Prop where
  d : Dev w p bs bo n a dn S O
  rr : RDev w r lv n a dn E
  ag : Agree S O E
  sep : ∀ x ∈ rblocks r lv E, x ≠ p ∧ x ≠ bs ∧ x ≠ bo
  lo : w0.heap.size ≤ p ∧ w0.heap.size ≤ bs ∧ w0.heap.size ≤ bo
  rlo : ∀ x ∈ rblocks r lv E, w0.heap.size ≤ x
  fr : Fr [] w0 w

def PairX (w0 w : World) (p bs bo r : Nat) (n : Int) : Prop := ∃ lv a dn S O E, Pair w0 w p bs bo r lv n a dn S O E

theorem Pair.x {w0 w : World} {p bs bo r : Nat} {lv : Value} {n a : Int} {dn : Bool} {S O : Tab} {E : List Ent} (P : Pair w0 w p bs bo r lv n a dn S O E) : PairX w0 w p bs bo r n := ⟨lv, a, dn, S, O, E, P⟩

theorem own_in {r : Nat} {lv : Value} {E : List Ent} {x : Nat} (h : x ∈ r :: lv.ownBlock.toList) : x ∈ rblocks r lv E := by
  rw [mem_rblocks]
  simp at h
  rcases h with h | h
  · exact Or.inl h
  · exact Or.inr (Or.inl h)

theorem Pair.keep {w0 w w' : World} {p bs bo r : Nat} {lv : Value} {n a : Int} {dn : Bool} {S O : Tab} {E : List Ent} (P : Pair w0 w p bs bo r lv n a dn S O E) {L : List Nat} (k : Fr L w w') (hL : ∀ x ∈ L, w.heap.size ≤ x) : Pair w0 w' p bs bo r lv n a dn S O E := by
  have hd := P.d.lt
  have hs := P.fr.size
  exact ⟨P.d.kept k (fun h => by have := hL _ h; omega) (fun h => by have := hL _ h; omega) (fun h => by have := hL _ h; omega),
    P.rr.kept k (fun x hx h => by have := hL _ h; have := P.rr.lts x hx; omega), P.ag, P.sep, P.lo, P.rlo, P.fr.then k (fun i hi h => by have := hL _ h; omega)⟩

/-- Behind a call of the program's device the document's is as it was. -/
theorem Pair.rd {w0 w w1 : World} {p bs bo r : Nat} {lv : Value} {n a : Int} {dn : Bool} {S O : Tab} {E : List Ent} (P : Pair w0 w p bs bo r lv n a dn S O E) (f : Fr [p, bs, bo] w w1) : RDev w1 r lv n a dn E :=
  P.rr.kept f (fun x hx => by have := P.sep x hx; simp; exact this)
theorem Pair.dd {w0 w w1 : World} {p bs bo r : Nat} {lv : Value} {n a : Int} {dn : Bool} {S O : Tab} {E : List Ent} (P : Pair w0 w p bs bo r lv n a dn S O E) (f : Fr (r :: lv.ownBlock.toList) w w1) : Dev w1 p bs bo n a dn S O :=
  P.d.kept f (fun h => (P.sep _ (own_in h)).1 rfl) (fun h => (P.sep _ (own_in h)).2.1 rfl) (fun h => (P.sep _ (own_in h)).2.2 rfl)

theorem Pair.move {w0 w w1 w2 : World} {p bs bo r : Nat} {lv lv' : Value} {n a a' : Int} {dn dn' : Bool} {S O S' O' : Tab} {E E' : List Ent} (P : Pair w0 w p bs bo r lv n a dn S O E)
    (d1 : Dev w1 p bs bo n a' dn' S' O') (f1 : Fr [p, bs, bo] w w1) (r2 : RDev w2 r lv' n a' dn' E') (f2 : Fr (r :: lv.ownBlock.toList) w1 w2) (gr : Grew w1.heap.size r lv E lv' E') (ag : Agree S' O' E') : Pair w0 w2 p bs bo r lv' n a' dn' S' O' E' := by
  have hd := d1.lt
  have hs := P.fr.size
  have hs1 := f1.size
  refine ⟨d1.kept f2 (fun h => (P.sep _ (own_in h)).1 rfl) (fun h => (P.sep _ (own_in h)).2.1 rfl) (fun h => (P.sep _ (own_in h)).2.2 rfl), r2, ag, fun x hx => ?_, P.lo, fun x hx => ?_, ?_⟩
  · rcases gr x hx with h | h
    · exact P.sep x h
    · exact ⟨by omega, by omega, by omega⟩
  · rcases gr x hx with h | h
    · exact P.rlo x h
    · omega
  · refine (P.fr.then f1 (fun i hi h => ?_)).then f2 (fun i hi h => ?_)
    · have := P.lo
      simp at h
      omega
    · have := P.rlo i (own_in h)
      omega

theorem Pair.move' {w0 w w1 w2 : World} {p bs bo r : Nat} {lv lv' : Value} {n a a' : Int} {dn dn' : Bool} {S O S' O' : Tab} {E E' : List Ent} (P : Pair w0 w p bs bo r lv n a dn S O E)
    (r1 : RDev w1 r lv' n a' dn' E') (f1 : Fr (r :: lv.ownBlock.toList) w w1) (gr : Grew w.heap.size r lv E lv' E') (d2 : Dev w2 p bs bo n a' dn' S' O') (f2 : Fr [p, bs, bo] w1 w2) (ag : Agree S' O' E') : Pair w0 w2 p bs bo r lv' n a' dn' S' O' E' := by
  have hd := P.d.lt
  have hs := P.fr.size
  have hs1 := f1.size
  have sep : ∀ x ∈ rblocks r lv' E', x ≠ p ∧ x ≠ bs ∧ x ≠ bo := by
    intro x hx
    rcases gr x hx with h | h
    · exact P.sep x h
    · exact ⟨by omega, by omega, by omega⟩
  refine ⟨d2, r1.kept f2 (fun x hx => by have := sep x hx; simp; exact this), ag, sep, P.lo, fun x hx => ?_, ?_⟩
  · rcases gr x hx with h | h
    · exact P.rlo x h
    · omega
  · refine (P.fr.then f1 (fun i hi h => ?_)).then f2 (fun i hi h => ?_)
    · have := P.rlo i (own_in h)
      omega
    · have := P.lo
      simp at h
      omega

end Go.Proofs.Ytkenkgfohgmpnaa
