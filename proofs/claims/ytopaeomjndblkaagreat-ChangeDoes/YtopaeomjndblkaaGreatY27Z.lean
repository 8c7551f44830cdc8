/-
  DERIVED: THE SHELF's CONTRACTS AT THIS DUMP, IN PLAIN WORDS (tools/lay-plain.mjs out of 'TryzShelf.lean', which tools/lay-shelf.mjs wrote): THE SAME DECLARATIONS UNDER THE SAME NAMES: 'import', 'namespace', 'open', 'def', 'theorem' AND NOTHING ELSE: no command of the shelf's: FOR A HAND-IN. Each laying: the table of numbers ('.._ren') and one theorem, a field a fact of the dump's own or the kernel's comparison; each contract: ONE APPLICATION.
-/
import Derived.Test.YtopaeomjndblkaaGreatY09Z
import Derived.Test.YtopaeomjndblkaaGreatY21Z
import Derived.Test.YtopaeomjndblkaaGreatY26Z
import Derived.Shelf.Small.Bits
import Derived.Shelf.Strconv.Itoa0
import Derived.Shelf.SlSortCmp.Whole1
import Derived.Ground.SlsfProg
import Derived.Shelf.SlGeneric
import Derived.Test.YtopaeomjndblkaaGreatProg
namespace Go.Proofs.YtopaeomjndblkaaGreat
open Go.RowKit Go.Maps

theorem take_pre {a b : List UInt8} {k : Nat} (h : a.length = k) : (a ++ b).take k = a := List.take_left' h
theorem drop_pre {a b : List UInt8} {k : Nat} (h : a.length = k) : (a ++ b).drop k = b := List.drop_left' h
theorem drop_more {l a b : List UInt8} {i k j : Nat} (h : l.drop i = a ++ b) (ha : a.length = k) (hj : i + k = j) : l.drop j = b := by
  rw [← hj, ← List.drop_drop, h, drop_pre ha]
theorem val_be (k n : Nat) (h : n < 256 ^ k) : valL (beK k n) = n := by rw [valL_beK, Nat.mod_eq_of_lt h]

theorem span_dec (b o : Int) (old new : List UInt8) (wo : Bool) (hb0 : 0 ≤ b) (hb1 : b < 65536) (ho0 : 0 ≤ o) (ho1 : o ≤ 512) (hn : new.length ≤ 512) (hw : old.length = if wo = true then new.length else 0) :
    spanD (beK 4 b.toNat ++ (beK 2 o.toNat ++ (beK 2 new.length ++ (old ++ new)))) wo = some (b.toNat, o.toNat, old, new) := by
  obtain ⟨l, hl⟩ : ∃ l, l = beK 4 b.toNat ++ (beK 2 o.toNat ++ (beK 2 new.length ++ (old ++ new))) := ⟨_, rfl⟩
  have d4 : l.drop 4 = beK 2 o.toNat ++ (beK 2 new.length ++ (old ++ new)) := by rw [hl]; exact drop_pre (beK_length _ _)
  have d6 := drop_more d4 (beK_length _ _) (show 4 + 2 = 6 by omega)
  have d8 := drop_more d6 (beK_length _ _) (show 6 + 2 = 8 by omega)
  have t4 : l.take 4 = beK 4 b.toNat := by rw [hl]; exact take_pre (beK_length _ _)
  have hlen : l.length = 8 + (old.length + new.length) := by rw [hl]; simp [beK_length]; omega
  have v6 : valL ((l.drop 6).take 2) = new.length := by rw [d6, take_pre (beK_length _ _), val_be 2 _ (by omega)]
  rw [← hl]
  unfold spanD
  rw [if_neg (by omega), v6, d4, d8, t4, take_pre (beK_length _ _), val_be 4 _ (by omega), val_be 2 o.toNat (by omega)]
  rw [if_neg (by rw [hlen, ← hw]; omega), ← hw, take_pre rfl, drop_pre rfl]

theorem toI_place {x : Int} (h : placeB x = true) : toI (valL (beK 8 x.toNat)) = x := by
  simp only [placeB, Bool.and_eq_true, decide_eq_true_eq] at h
  rw [val_be 8 _ (by omega), toI_small _ (by omega)]
  omega

theorem body_dec (r : Rec) (h : rightB r = true) : bodyD (bodyL r) r.lsn r.turn = some r := by
  obtain ⟨l0, l1, u0, u1, ht, hp, -⟩ := right_facts h
  have hb3 : ∀ t : List UInt8, (b3L r ++ t).take 1 = beK 1 r.kind ∧ ((b3L r ++ t).drop 1).take 8 = beK 8 r.tx.toNat ∧ ((b3L r ++ t).drop 9).take 8 = beK 8 r.prev.toNat ∧ (b3L r ++ t).drop 17 = t := by
    intro t
    have e : b3L r ++ t = beK 1 r.kind ++ (beK 8 r.tx.toNat ++ (beK 8 r.prev.toNat ++ t)) := by simp [b3L]
    have d1 : (b3L r ++ t).drop 1 = beK 8 r.tx.toNat ++ (beK 8 r.prev.toNat ++ t) := by rw [e]; exact drop_pre (beK_length _ _)
    have d9 := drop_more d1 (beK_length _ _) (show 1 + 8 = 9 by omega)
    have d17 := drop_more d9 (beK_length _ _) (show 9 + 8 = 17 by omega)
    exact ⟨by rw [e]; exact take_pre (beK_length _ _), by rw [d1]; exact take_pre (beK_length _ _), by rw [d9]; exact take_pre (beK_length _ _), d17⟩
  have hlen := bodyL_length r
  rcases right_kinds h with ⟨hk, hn, b0, b1, o0, n0, o1, on⟩ | ⟨hk, hn, b0, b1, o0, n0, o1, on⟩ | ⟨hk, hn, b0, o0, on, nn⟩
  · have e : bodyL r = b3L r ++ (beK 4 r.block.toNat ++ (beK 2 r.off.toNat ++ (beK 2 r.new.length ++ (r.old ++ r.new)))) := by
      unfold bodyL b4L
      rw [if_neg (by omega), if_neg (by omega)]
      simp
    obtain ⟨h1, h2, h3, h4⟩ := hb3 (beK 4 r.block.toNat ++ (beK 2 r.off.toNat ++ (beK 2 r.new.length ++ (r.old ++ r.new))))
    rw [if_neg (by omega), if_neg (by omega)] at hlen
    unfold bodyD
    rw [if_neg (by omega), e, h1, h2, h3, h4, val_be 1 _ (by omega), if_pos hk, span_dec _ _ _ _ true b0 b1 o0 (by omega) (by omega) (by simpa using on), toI_place ht, toI_place hp]
    obtain ⟨lsn, turn, kind, tx, prev, next, block, off, old, new⟩ := r
    dsimp only at *
    subst hk hn
    simp only [Option.map_some, Option.some.injEq, Rec.mk.injEq, true_and, and_true]
    omega
  · have e : bodyL r = b3L r ++ (beK 8 r.next.toNat ++ (beK 4 r.block.toNat ++ (beK 2 r.off.toNat ++ (beK 2 r.new.length ++ (r.old ++ r.new))))) := by
      unfold bodyL b4L
      rw [if_neg (by omega), if_pos (by omega)]
      simp
    obtain ⟨h1, h2, h3, h4⟩ := hb3 (beK 8 r.next.toNat ++ (beK 4 r.block.toNat ++ (beK 2 r.off.toNat ++ (beK 2 r.new.length ++ (r.old ++ r.new)))))
    have h5 := drop_more h4 (beK_length _ _) (show 17 + 8 = 25 by omega)
    rw [if_pos (by omega), if_neg (by omega)] at hlen
    unfold bodyD
    rw [if_neg (by omega), if_neg (by omega : ¬ (bodyL r).length < 25), e, h1, h2, h3, h5, h4, val_be 1 _ (by omega), if_neg (by omega), if_pos hk, take_pre (beK_length _ _), span_dec _ _ _ _ false b0 b1 o0 (by omega) (by omega) (by simpa using on), toI_place ht, toI_place hp, toI_place hn]
    obtain ⟨lsn, turn, kind, tx, prev, next, block, off, old, new⟩ := r
    dsimp only at *
    subst hk
    simp only [Option.map_some, Option.some.injEq, Rec.mk.injEq, true_and, and_true]
    omega
  · have e : bodyL r = b3L r ++ [] := by
      unfold bodyL b4L
      rw [if_pos (by omega), if_neg (by omega)]
      simp
    obtain ⟨h1, h2, h3, h4⟩ := hb3 []
    rw [if_neg (by omega), if_pos (by omega)] at hlen
    unfold bodyD
    rw [if_neg (by omega), if_pos (by omega : (bodyL r).length = 17), e, h1, h2, h3, val_be 1 _ (by omega), if_neg (by omega), if_neg (by omega), toI_place ht, toI_place hp]
    obtain ⟨lsn, turn, kind, tx, prev, next, block, off, old, new⟩ := r
    dsimp only at *
    have eo : old = [] := List.eq_nil_of_length_eq_zero on
    have en : new = [] := List.eq_nil_of_length_eq_zero nn
    subst hn b0 o0 eo en
    rfl

/-- What is put is got. -/
theorem dec_enc (r : Rec) (h : rightB r = true) (t : List UInt8) : decR (encL r ++ t) = some (r, (encL r).length) := by
  obtain ⟨l0, l1, u0, u1, -, -, -⟩ := right_facts h
  obtain ⟨n0, n1⟩ := body_bounds h
  obtain ⟨l, hl⟩ : ∃ l, l = encL r ++ t := ⟨_, rfl⟩
  have e0 : l = beK 8 r.lsn.toNat ++ (beK 4 r.turn.toNat ++ (beK 2 (bodyL r).length ++ (beK 4 (crc (headL r ++ bodyL r)) ++ (bodyL r ++ t)))) := by rw [hl]; simp [encL, headL]
  have e14 : l = headL r ++ (beK 4 (crc (headL r ++ bodyL r)) ++ (bodyL r ++ t)) := by rw [hl]; simp [encL]
  have d8 : l.drop 8 = beK 4 r.turn.toNat ++ (beK 2 (bodyL r).length ++ (beK 4 (crc (headL r ++ bodyL r)) ++ (bodyL r ++ t))) := by rw [e0]; exact drop_pre (beK_length _ _)
  have d12 := drop_more d8 (beK_length _ _) (show 8 + 4 = 12 by omega)
  have d14 := drop_more d12 (beK_length _ _) (show 12 + 2 = 14 by omega)
  have d18 := drop_more d14 (beK_length _ _) (show 14 + 4 = 18 by omega)
  have t8 : l.take 8 = beK 8 r.lsn.toNat := by rw [e0]; exact take_pre (beK_length _ _)
  have t14 : l.take 14 = headL r := by rw [e14]; exact take_pre (headL_length r)
  have hlen : l.length = 18 + (bodyL r).length + t.length := by rw [hl, List.length_append, encL_length]
  have v12 : valL ((l.drop 12).take 2) = (bodyL r).length := by rw [d12, take_pre (beK_length _ _), val_be 2 _ (by omega)]
  have v14 : valL ((l.drop 14).take 4) = crc (headL r ++ bodyL r) := by rw [d14, take_pre (beK_length _ _), val_be 4 _ (by have := crc_lt (headL r ++ bodyL r); omega)]
  have v8 : (valL ((l.drop 8).take 4) : Int) = r.turn := by rw [d8, take_pre (beK_length _ _), val_be 4 _ (by omega)]; omega
  have v0 : toI (valL (l.take 8)) = r.lsn := by rw [t8, val_be 8 _ (by omega), toI_small _ (by omega)]; omega
  rw [← hl]
  unfold decR
  rw [if_neg (by omega), v12, if_neg (by omega), v14, t14, d18, take_pre rfl, if_neg (fun h => h rfl), v0, v8, body_dec r h, encL_length]
  show (if rightB r = true then _ else _) = _
  rw [if_pos h]

/-! ### what is got was put -/
end Go.Proofs.YtopaeomjndblkaaGreat

namespace Go.Proofs.YtopaeomjndblkaaGreat
open Go.RowKit Go.Maps

/-- A step of a log. -/
structure LStep (w w' : World) (y y' : Lo) : Prop where
  at' : LoAt w' y'
  fr : Fr y.own w w'
  ow : ∀ k ∈ y'.own, k ∈ y.own ∨ w.heap.size ≤ k
theorem LStep.trans {w w1 w2 : World} {y y1 y2 : Lo} (h : LStep w w1 y y1) (k : LStep w1 w2 y1 y2) : LStep w w2 y y2 :=
  ⟨k.at', h.fr.then k.fr (fun i hi hm => (h.ow i hm).resolve_right (by omega)), fun i hi => (k.ow i hi).elim (fun h1 => h.ow i h1) (fun h1 => Or.inr (Nat.le_trans h.fr.size h1))⟩
theorem LStep.quiet {w w' : World} {y : Lo} (h : LoAt w y) (f : Fr [] w w') : LStep w w' y y := ⟨h.kept f (by simp), f.mono (fun _ _ e => nomatch e), fun k hk => Or.inl hk⟩
end Go.Proofs.YtopaeomjndblkaaGreat

namespace Go.Proofs.YtopaeomjndblkaaGreat
open Go.RowKit Go.Maps

end Go.Proofs.YtopaeomjndblkaaGreat

namespace Go.Proofs.YtopaeomjndblkaaGreat
open Go.RowKit Go.Maps

/-- A page is what its frame has, or, if it is in none, what the device has. -/
def Val (x : Po) (q : Nat) (l : List UInt8) : Prop := (∃ f ∈ x.fs, f.pg = q ∧ f.l = l) ∨ (q ∉ (ids x.fs).map (·.1) ∧ pgD x.start x.y q = l)
theorem mem_ids {fs : List Fm} {f : Fm} (h : f ∈ fs) : f.pg ∈ (ids fs).map (·.1) := List.mem_map.2 ⟨(f.pg, f.b), List.mem_map.2 ⟨f, h, rfl⟩, rfl⟩
theorem ids_mem {fs : List Fm} {q : Nat} (h : q ∈ (ids fs).map (·.1)) : ∃ f ∈ fs, f.pg = q := by
  obtain ⟨j, f, hj, hq⟩ := pg_in h
  exact ⟨f, List.mem_of_getElem? hj, hq⟩
theorem ids_pg (fs : List Fm) : (ids fs).map (·.1) = fs.map (·.pg) := by
  unfold ids
  rw [List.map_map]
  rfl
theorem pg_uniq {fs : List Fm} (hn : ((ids fs).map (·.1)).Nodup) {i j : Nat} {f g : Fm} (hi : fs[i]? = some f) (hj : fs[j]? = some g) (he : f.pg = g.pg) : i = j := by
  rw [ids_pg] at hn
  have h1 : (fs.map (·.pg))[i]? = some f.pg := by rw [List.getElem?_map, hi]; rfl
  have h2 : (fs.map (·.pg))[j]? = some f.pg := by rw [List.getElem?_map, hj, he]; rfl
  obtain ⟨hl1, e1⟩ := List.getElem?_eq_some_iff.1 h1
  obtain ⟨hl2, e2⟩ := List.getElem?_eq_some_iff.1 h2
  have hp := List.pairwise_iff_getElem.1 hn
  rcases Nat.lt_trichotomy i j with h | h | h
  · exact absurd (e1.trans e2.symm) (hp i j hl1 hl2 h)
  · exact h
  · exact absurd (e2.trans e1.symm) (hp j i hl2 hl1 h)
theorem Val.uniq {x : Po} (hn : ((ids x.fs).map (·.1)).Nodup) {q : Nat} {l l' : List UInt8} (h : Val x q l) (h' : Val x q l') : l = l' := by
  rcases h with ⟨f, hf, rfl, rfl⟩ | ⟨hq, rfl⟩ <;> rcases h' with ⟨g, hg, he, rfl⟩ | ⟨hq', rfl⟩
  · obtain ⟨i, hi⟩ := List.mem_iff_getElem?.1 hf
    obtain ⟨j, hj⟩ := List.mem_iff_getElem?.1 hg
    have := pg_uniq hn hi hj he.symm
    subst this
    rw [hi] at hj
    cases hj
    rfl
  · exact absurd (mem_ids hf) hq'
  · exact absurd (he ▸ mem_ids hg) hq
  · rfl
theorem Val.ex (x : Po) (q : Nat) : ∃ l, Val x q l := by
  by_cases h : q ∈ (ids x.fs).map (·.1)
  · obtain ⟨f, hf, hq⟩ := ids_mem h
    exact ⟨_, Or.inl ⟨f, hf, hq, rfl⟩⟩
  · exact ⟨_, Or.inr ⟨h, rfl⟩⟩
theorem Val.len {w : World} {x : Po} (h : PoAt w x) {q : Nat} {l : List UInt8} (hv : Val x q l) : l.length = 512 := by
  rcases hv with ⟨f, hf, _, rfl⟩ | ⟨_, rfl⟩
  · exact (h.rn.frames f hf).len
  · exact latest_len h.lo.dev _
/-- All pages of one pool are as those of another one. -/
def Alike (x x' : Po) : Prop := x'.start = x.start ∧ x'.pages = x.pages ∧ x'.most = x.most ∧ x'.pp = x.pp ∧ x'.mp = x.mp ∧ x'.rp = x.rp ∧ ∀ q, q < x.pages → ∀ l, Val x q l → Val x' q l
theorem Alike.refl (x : Po) : Alike x x := ⟨rfl, rfl, rfl, rfl, rfl, rfl, fun _ _ _ h => h⟩
theorem Alike.trans {x y z : Po} (h : Alike x y) (k : Alike y z) : Alike x z := ⟨k.1.trans h.1, k.2.1.trans h.2.1, k.2.2.1.trans h.2.2.1, k.2.2.2.1.trans h.2.2.2.1, k.2.2.2.2.1.trans h.2.2.2.2.1, k.2.2.2.2.2.1.trans h.2.2.2.2.2.1, fun q hq l hl => k.2.2.2.2.2.2 q (by rw [h.2.1]; exact hq) l (h.2.2.2.2.2.2 q hq l hl)⟩
theorem val_set {x : Po} {fs' : List Fm} (hp : fs'.map (·.pg) = x.fs.map (·.pg)) (hl : ∀ (i : Nat) (f : Fm), x.fs[i]? = some f → ∃ g : Fm, fs'[i]? = some g ∧ g.pg = f.pg ∧ g.l = f.l) {q : Nat} {l : List UInt8} (h : Val x q l) : Val { x with fs := fs' } q l := by
  rcases h with ⟨f, hf, rfl, rfl⟩ | ⟨hq, rfl⟩
  · obtain ⟨i, hi⟩ := List.mem_iff_getElem?.1 hf
    obtain ⟨g, hg, h1, h2⟩ := hl i f hi
    exact Or.inl ⟨g, List.mem_of_getElem? hg, h1, h2⟩
  · refine Or.inr ⟨?_, rfl⟩
    show q ∉ (ids fs').map (·.1)
    rw [ids_pg, hp, ← ids_pg]
    exact hq
theorem Fnd.alike {x x' : Po} {page : Nat} {f : Fm} (h : Fnd x x' page f) (hn : ((ids x.fs).map (·.1)).Nodup) : Alike x x' ∧ Val x page f.l ∧ f.pg = page := by
  rcases h with ⟨j, f0, hj, rfl, rfl, rfl⟩ | ⟨hno, hm, hf⟩
  · refine ⟨⟨rfl, rfl, rfl, rfl, rfl, rfl, fun q _ l hl => val_set (fs' := x.fs.set j { f0 with ask := true }) ?_ ?_ hl⟩, Or.inl ⟨f0, List.mem_of_getElem? hj, rfl, rfl⟩, rfl⟩
    · rw [← ids_pg, ids_set (f' := { f0 with ask := true }) hj rfl rfl, ids_pg]
    · intro i g hi
      by_cases e : i = j
      · subst e
        rw [hj] at hi
        cases hi
        exact ⟨_, List.getElem?_set_self (List.getElem?_eq_some_iff.1 hj).1, rfl, rfl⟩
      · exact ⟨g, by rw [List.getElem?_set_ne (fun h => e h.symm)]; exact hi, rfl, rfl⟩
  · rcases hm with ⟨_, a, c, rfl⟩ | ⟨_, y', k, j, f1, _, _, hf1, _, rfl, hk, hpq, hpf, _⟩
    · refine ⟨⟨rfl, rfl, rfl, rfl, rfl, rfl, fun q _ l hl => ?_⟩, Or.inr ⟨hno, by rw [hf]; rfl⟩, by rw [hf]; rfl⟩
      rcases hl with ⟨g, hg, h1, h2⟩ | ⟨hq, h2⟩
      · exact Or.inl ⟨g, List.mem_append_left _ hg, h1, h2⟩
      · by_cases e : q = page
        · subst e
          exact Or.inl ⟨_, List.mem_append_right _ (List.mem_singleton.2 rfl), rfl, h2⟩
        · refine Or.inr ⟨?_, h2⟩
          show q ∉ (ids (x.fs ++ [newF f.b page (pgD x.start x.y page)])).map (·.1)
          rw [ids_pg, List.map_append, List.mem_append, ← ids_pg]
          rintro (h | h)
          · exact hq h
          · simp [newF] at h
            exact e h
    · refine ⟨⟨rfl, rfl, rfl, rfl, rfl, rfl, fun q hqp l hl => ?_⟩, Or.inr ⟨hno, by rw [hf]; rfl⟩, by rw [hf]; rfl⟩
      have hlt : j < x.fs.length := (List.getElem?_eq_some_iff.1 hf1).1
      have hids : ids (turnS k (x.fs.set j { f1 with fst := 0 }, x.hand)).1 = ids x.fs := (turnS_ids _ _).trans (ids_set (f' := { f1 with fst := 0 }) hf1 rfl rfl)
      have hpgs : (ids (x.swapped y' k j f1 (newF f.b page (pgD x.start x.y page))).fs).map (·.1) = ((ids x.fs).map (·.1)).set j page := by
        show (ids ((turnS k (x.fs.set j { f1 with fst := 0 }, x.hand)).1.set j (newF f.b page (pgD x.start x.y page)))).map (·.1) = _
        rw [ids_pg, List.map_set, ← ids_pg, hids]
        rfl
      have hat : ∀ (i : Nat) (g : Fm), i ≠ j → x.fs[i]? = some g → ∃ g' : Fm, (x.swapped y' k j f1 (newF f.b page (pgD x.start x.y page))).fs[i]? = some g' ∧ g'.pg = g.pg ∧ g'.l = g.l := by
        intro i g hij hg
        have hil : i < (turnS k (x.fs.set j { f1 with fst := 0 }, x.hand)).1.length := by rw [turnS_len, List.length_set]; exact (List.getElem?_eq_some_iff.1 hg).1
        obtain ⟨g', h1, h2⟩ := turnS_at k (x.fs.set j { f1 with fst := 0 }, x.hand) i _ (List.getElem?_eq_getElem hil)
        have h3 : (x.fs.set j { f1 with fst := 0 })[i]? = some g := by rw [List.getElem?_set_ne (fun h => hij h.symm)]; exact hg
        rw [h3] at h1
        cases h1
        refine ⟨(turnS k (x.fs.set j { f1 with fst := 0 }, x.hand)).1[i], ?_, ?_⟩
        · show ((turnS k (x.fs.set j { f1 with fst := 0 }, x.hand)).1.set j _)[i]? = _
          rw [List.getElem?_set_ne (fun h => hij h.symm)]
          exact List.getElem?_eq_getElem hil
        · rcases h2 with h2 | h2 <;> rw [h2] <;> exact ⟨rfl, rfl⟩
      have hnj : (x.swapped y' k j f1 (newF f.b page (pgD x.start x.y page))).fs[j]? = some (newF f.b page (pgD x.start x.y page)) := by
        show ((turnS k (x.fs.set j { f1 with fst := 0 }, x.hand)).1.set j _)[j]? = _
        rw [List.getElem?_set_self]
        rw [turnS_len, List.length_set]
        exact hlt
      rcases hl with ⟨g, hg, h1, h2⟩ | ⟨hq, h2⟩
      · obtain ⟨i, hi⟩ := List.mem_iff_getElem?.1 hg
        by_cases e : i = j
        · subst e
          rw [hf1] at hi
          cases hi
          refine Or.inr ⟨?_, ?_⟩
          · rw [hpgs]
            intro hc
            have hmem := List.mem_iff_getElem?.1 hc
            obtain ⟨i', hi'⟩ := hmem
            by_cases e' : i' = i
            · subst e'
              rw [List.getElem?_set_self (by rw [ids_pg, List.length_map]; exact hlt)] at hi'
              cases hi'
              exact hno (h1 ▸ mem_ids hg)
            · rw [List.getElem?_set_ne (fun h => e' h.symm), ids_pg, List.getElem?_map] at hi'
              cases hg' : x.fs[i']? with
              | none => rw [hg'] at hi'; cases hi'
              | some g' =>
                rw [hg'] at hi'
                have : g'.pg = q := by simpa using hi'
                exact e' (pg_uniq hn hg' hf1 (this.trans h1.symm))
          · show pgD x.start y' q = l
            rw [← h1, hpf, h2]
        · obtain ⟨g', hg', h3, h4⟩ := hat i g e hi
          exact Or.inl ⟨g', List.mem_of_getElem? hg', h3.trans h1, h4.trans h2⟩
      · by_cases e : q = page
        · subst e
          exact Or.inl ⟨_, List.mem_of_getElem? hnj, rfl, h2⟩
        · refine Or.inr ⟨?_, ?_⟩
          · rw [hpgs]
            intro hc
            rcases List.mem_or_eq_of_mem_set hc with h | h
            · exact hq h
            · exact e h
          · show pgD x.start y' q = l
            rw [hpq q hqp (fun h => hq (h ▸ mem_ids (List.mem_of_getElem? hf1))), h2]
/-- How many frames there are. -/
theorem Fnd.length {x x' : Po} {page : Nat} {f : Fm} (h : Fnd x x' page f) : (x'.fs.length = x.fs.length ∧ (page ∈ (ids x.fs).map (·.1) ∨ x.fs.length = x.most)) ∨ (x.fs.length < x.most ∧ x'.fs.length = x.fs.length + 1 ∧ page ∉ (ids x.fs).map (·.1)) := by
  rcases h with ⟨j, f0, hj, rfl, rfl, rfl⟩ | ⟨hno, hm, hf⟩
  · exact Or.inl ⟨List.length_set, Or.inl (mem_ids (List.mem_of_getElem? hj))⟩
  · rcases hm with ⟨h1, a, c, rfl⟩ | ⟨h1, y', k, j, f1, _, _, hf1, _, rfl, hk, hpq, hpf, _⟩
    · exact Or.inr ⟨h1, by show (x.fs ++ [_]).length = _; rw [List.length_append]; rfl, hno⟩
    · refine Or.inl ⟨?_, Or.inr h1⟩
      show ((turnS k (x.fs.set j { f1 with fst := 0 }, x.hand)).1.set j _).length = _
      rw [List.length_set, turnS_len, List.length_set]
theorem Fnd.kin {x x' : Po} {page : Nat} {f : Fm} (h : Fnd x x' page f) : Kin x.y x'.y := by
  rcases h with ⟨j, f0, hj, rfl, rfl, rfl⟩ | ⟨hno, hm, hf⟩
  · exact Kin.refl _
  · rcases hm with ⟨h1, a, c, rfl⟩ | ⟨h1, y', k, j, f1, _, _, hf1, _, rfl, hk, hpq, hpf, _⟩
    · exact Kin.refl _
    · exact hk
end Go.Proofs.YtopaeomjndblkaaGreat

namespace Go.Proofs.YtopaeomjndblkaaGreat
open Go.RowKit Go.Maps

def cmpP (a b : Nat) : Int := if a < b then -1 else if b < a then 1 else 0
set_option maxHeartbeats 400000 in
theorem nanI_any (w : World) (x : Int) : Calls Tryz.prog 233 #[.int .i64 x] w fun e w' => e = .returned (.bool false) ∧ w' = w := by
  have h : (x != x) = false := by simp
  go_enter Tryz.func233, Tryz.ntmps233
  go_wp2
  go_ret
  exact ⟨rfl, rfl⟩
set_option maxHeartbeats 400000 in
theorem compare_any (w : World) (a b : Nat) : Calls Tryz.prog 190 #[.int .i64 (a : Int), .int .i64 (b : Int)] w fun e w' => e = .returned (.int .i64 (cmpP a b)) ∧ w' = w := by
  unfold cmpP
  by_cases h1 : a < b
  · have q1 : (a : Int) < (b : Int) := by omega
    rw [if_pos h1]
    go_enter Tryz.func190, Tryz.ntmps190
    go_wp2_with (go_at_call 233; refine (nanI_any _ _).mono ?_; rintro e wz ⟨rfl, hz⟩; rw [hz]; clear hz)
    go_ret
    exact ⟨rfl, rfl⟩
  · have q1 : ¬ (a : Int) < (b : Int) := by omega
    rw [if_neg h1]
    by_cases h2 : b < a
    · have q2 : (b : Int) < (a : Int) := by omega
      rw [if_pos h2]
      go_enter Tryz.func190, Tryz.ntmps190
      go_wp2_with (go_at_call 233; refine (nanI_any _ _).mono ?_; rintro e wz ⟨rfl, hz⟩; rw [hz]; clear hz)
      go_ret
      exact ⟨rfl, rfl⟩
    · have q2 : ¬ (b : Int) < (a : Int) := by omega
      rw [if_neg h2]
      go_enter Tryz.func190, Tryz.ntmps190
      go_wp2_with (go_at_call 233; refine (nanI_any _ _).mono ?_; rintro e wz ⟨rfl, hz⟩; rw [hz]; clear hz)
      go_ret
      exact ⟨rfl, rfl⟩
set_option maxHeartbeats 1000000 in
theorem rising1_any {w : World} {f g : Fm} (hf : FAt w f) (hg : FAt w g) : Calls Tryz.prog 189 #[.pointer (some ⟨f.b, 0, none⟩), .pointer (some ⟨g.b, 0, none⟩)] w fun e w' => e = .returned (.int .i64 (cmpP f.pg g.pg)) ∧ ∃ q, w' = w.drewN q := by
  have c0 := hf.c0
  have d0 := hg.c0
  clear hf hg
  go_enter Tryz.func189, Tryz.ntmps189
  go_wp2_with fail
  go_quiet ((go_at_call 190; exact Calls.quiet_of_same (compare_any _ _ _)))
  go_wp2
  go_ret
  exact ⟨rfl, _, rfl⟩
end Go.Proofs.YtopaeomjndblkaaGreat

namespace Go.Proofs
open Go.Shelf
def Tryz.laysSort_ren : Go.Shelf.Ren := ⟨fun | 6 => 188 | 15 => 232 | 14 => 231 | 28 => 275 | 29 => 276 | 20 => 267 | 21 => 268 | 22 => 269 | 23 => 270 | 24 => 271 | 25 => 272 | 26 => 273 | 27 => 274 | 46 => 285 | 47 => 286 | 48 => 287 | 49 => 288 | 50 => 289 | 57 => 290 | n => n, fun | 22 => 155 | 24 => 159 | 25 => 232 | 3 => 3 | 39 => 250 | 0 => 0 | 53 => 248 | 55 => 277 | 4 => 4 | 46 => 303 | 45 => 302 | 50 => 241 | 5 => 5 | 9 => 9 | 66 => 313 | 70 => 317 | 76 => 319 | 77 => 320 | n => n, fun | n => n⟩
theorem Tryz.laysSort : Go.Proofs.SlLaysF.n6 Tryz.prog Tryz.laysSort_ren := {
  mixed := by kernel_rfl
  f6 := ⟨Tryz.f188.name, by decide, Tryz.func188.trans (congrArg some (by kernel_rfl))⟩
  f14 := ⟨Tryz.f231.name, by decide, Tryz.func231.trans (congrArg some (by kernel_rfl))⟩
  f15 := Tryz.func232.trans (congrArg some (by kernel_rfl))
  f20 := ⟨Tryz.f267.name, by decide, Tryz.func267.trans (congrArg some (by kernel_rfl))⟩
  f21 := ⟨Tryz.f268.name, by decide, Tryz.func268.trans (congrArg some (by kernel_rfl))⟩
  f22 := ⟨Tryz.f269.name, by decide, Tryz.func269.trans (congrArg some (by kernel_rfl))⟩
  f23 := ⟨Tryz.f270.name, by decide, Tryz.func270.trans (congrArg some (by kernel_rfl))⟩
  f24 := ⟨Tryz.f271.name, by decide, Tryz.func271.trans (congrArg some (by kernel_rfl))⟩
  f25 := ⟨Tryz.f272.name, by decide, Tryz.func272.trans (congrArg some (by kernel_rfl))⟩
  f26 := ⟨Tryz.f273.name, by decide, Tryz.func273.trans (congrArg some (by kernel_rfl))⟩
  f27 := ⟨Tryz.f274.name, by decide, Tryz.func274.trans (congrArg some (by kernel_rfl))⟩
  f28 := Tryz.func275.trans (congrArg some (by kernel_rfl))
  f29 := Tryz.func276.trans (congrArg some (by kernel_rfl))
  f46 := ⟨Tryz.f285.name, by decide, Tryz.func285.trans (congrArg some (by kernel_rfl))⟩
  f47 := Tryz.func286.trans (congrArg some (by kernel_rfl))
  f48 := Tryz.func287.trans (congrArg some (by kernel_rfl))
  f49 := ⟨Tryz.f288.name, by decide, Tryz.func288.trans (congrArg some (by kernel_rfl))⟩
  f50 := ⟨Tryz.f289.name, by decide, Tryz.func289.trans (congrArg some (by kernel_rfl))⟩
  f57 := ⟨Tryz.f290.name, by decide, Tryz.func290.trans (congrArg some (by kernel_rfl))⟩
  t0 := Tryz.underlying0
  a0 := Tryz.isAgg0
  z0 := Tryz.sizeOf0
  v0 := Tryz.zeroValue0
  t3 := Tryz.underlying3
  a3 := Tryz.isAgg3
  z3 := Tryz.sizeOf3
  v3 := Tryz.zeroValue3
  t4 := Tryz.underlying4
  a4 := Tryz.isAgg4
  z4 := Tryz.sizeOf4
  v4 := Tryz.zeroValue4
  t5 := Tryz.underlying5
  a5 := Tryz.isAgg5
  z5 := Tryz.sizeOf5
  v5 := Tryz.zeroValue5
  t9 := Tryz.underlying9
  a9 := Tryz.isAgg9
  z9 := Tryz.sizeOf9
  v9 := Tryz.zeroValue9
  t22 := Tryz.underlying155
  a22 := Tryz.isAgg155
  z22 := Tryz.sizeOf155
  v22 := Tryz.zeroValue155
  a24 := Tryz.isAgg159
  z24 := Tryz.sizeOf159
  t25 := Tryz.underlying232
  a25 := Tryz.isAgg232
  z25 := Tryz.sizeOf232
  v25 := Tryz.zeroValue232
  t39 := Tryz.underlying250
  a39 := Tryz.isAgg250
  z39 := Tryz.sizeOf250
  v39 := Tryz.zeroValue250
  t45 := Tryz.underlying302
  a45 := Tryz.isAgg302
  z45 := Tryz.sizeOf302
  v45 := Tryz.zeroValue302
  t46 := Tryz.underlying303
  a46 := Tryz.isAgg303
  z46 := Tryz.sizeOf303
  v46 := Tryz.zeroValue303
  t50 := Tryz.underlying241
  a50 := Tryz.isAgg241
  z50 := Tryz.sizeOf241
  v50 := Tryz.zeroValue241
  t53 := Tryz.underlying248
  a53 := Tryz.isAgg248
  z53 := Tryz.sizeOf248
  v53 := Tryz.zeroValue248
  t55 := Tryz.underlying277
  a55 := Tryz.isAgg277
  z55 := Tryz.sizeOf277
  v55 := Tryz.zeroValue277
  t66 := Tryz.underlying313
  a66 := Tryz.isAgg313
  z66 := Tryz.sizeOf313
  v66 := Tryz.zeroValue313
  t70 := Tryz.underlying317
  a70 := Tryz.isAgg317
  z70 := Tryz.sizeOf317
  v70 := Tryz.zeroValue317
  t76 := Tryz.underlying319
  a76 := Tryz.isAgg319
  z76 := Tryz.sizeOf319
  v76 := Tryz.zeroValue319
  t77 := Tryz.underlying320
  a77 := Tryz.isAgg320
  z77 := Tryz.sizeOf320
  v77 := Tryz.zeroValue320 }
end Go.Proofs

