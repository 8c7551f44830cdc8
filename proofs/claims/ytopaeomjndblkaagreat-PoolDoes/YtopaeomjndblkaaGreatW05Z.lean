/-
  The pool's Dirty: the dirty pages, rising, each with its first lsn.
-/
import Derived.Test.YtopaeomjndblkaaGreatW04Z
import Derived.Test.YtopaeomjndblkaaGreatShelf
import Derived.Shelf.SlSortCmp.Whole1
namespace Go.Proofs.YtopaeomjndblkaaGreat
open Go.RowKit Go.Maps

/-- A page is what its frame has, or, if it is in none, what the device has. -/
def Val (x : Po) (q : Nat) (l : List UInt8) : Prop := (∃ f ∈ x.fs, f.pg = q ∧ f.l = l) ∨ (q ∉ (ids x.fs).map (·.1) ∧ pgD x.start x.y q = l)
theorem mem_ids {fs : List Fm} {f : Fm} (h : f ∈ fs) : f.pg ∈ (ids fs).map (·.1) := List.mem_map.2 ⟨(f.pg, f.b), List.mem_map.2 ⟨f, h, rfl⟩, rfl⟩
theorem ids_mem {fs : List Fm} {q : Nat} (h : q ∈ (ids fs).map (·.1)) : ∃ f ∈ fs, f.pg = q := by
  obtain ⟨j, f, hj, hq⟩ := pg_in h
  exact ⟨f, List.mem_of_getElem? hj, hq⟩
theorem ids_pg (fs : List Fm) : (ids fs).map (·.1) = fs.map (·.pg) := by
  unfold ids
  rw [List.map_map]
  rfl
theorem pg_uniq {fs : List Fm} (hn : ((ids fs).map (·.1)).Nodup) {i j : Nat} {f g : Fm} (hi : fs[i]? = some f) (hj : fs[j]? = some g) (he : f.pg = g.pg) : i = j := by
  rw [ids_pg] at hn
  have h1 : (fs.map (·.pg))[i]? = some f.pg := by rw [List.getElem?_map, hi]; rfl
  have h2 : (fs.map (·.pg))[j]? = some f.pg := by rw [List.getElem?_map, hj, he]; rfl
  obtain ⟨hl1, e1⟩ := List.getElem?_eq_some_iff.1 h1
  obtain ⟨hl2, e2⟩ := List.getElem?_eq_some_iff.1 h2
  have hp := List.pairwise_iff_getElem.1 hn
  rcases Nat.lt_trichotomy i j with h | h | h
  · exact absurd (e1.trans e2.symm) (hp i j hl1 hl2 h)
  · exact h
  · exact absurd (e2.trans e1.symm) (hp j i hl2 hl1 h)
theorem Val.uniq {x : Po} (hn : ((ids x.fs).map (·.1)).Nodup) {q : Nat} {l l' : List UInt8} (h : Val x q l) (h' : Val x q l') : l = l' := by
  rcases h with ⟨f, hf, rfl, rfl⟩ | ⟨hq, rfl⟩ <;> rcases h' with ⟨g, hg, he, rfl⟩ | ⟨hq', rfl⟩
  · obtain ⟨i, hi⟩ := List.mem_iff_getElem?.1 hf
    obtain ⟨j, hj⟩ := List.mem_iff_getElem?.1 hg
    have := pg_uniq hn hi hj he.symm
    subst this
    rw [hi] at hj
    cases hj
    rfl
  · exact absurd (mem_ids hf) hq'
  · exact absurd (he ▸ mem_ids hg) hq
  · rfl
theorem Val.ex (x : Po) (q : Nat) : ∃ l, Val x q l := by
  by_cases h : q ∈ (ids x.fs).map (·.1)
  · obtain ⟨f, hf, hq⟩ := ids_mem h
    exact ⟨_, Or.inl ⟨f, hf, hq, rfl⟩⟩
  · exact ⟨_, Or.inr ⟨h, rfl⟩⟩
theorem Val.len {w : World} {x : Po} (h : PoAt w x) {q : Nat} {l : List UInt8} (hv : Val x q l) : l.length = 512 := by
  rcases hv with ⟨f, hf, _, rfl⟩ | ⟨_, rfl⟩
  · exact (h.rn.frames f hf).len
  · exact latest_len h.lo.dev _
/-- All pages of one pool are as those of another one. -/
def Alike (x x' : Po) : Prop := x'.start = x.start ∧ x'.pages = x.pages ∧ x'.most = x.most ∧ x'.pp = x.pp ∧ x'.mp = x.mp ∧ x'.rp = x.rp ∧ ∀ q, q < x.pages → ∀ l, Val x q l → Val x' q l
theorem Alike.refl (x : Po) : Alike x x := ⟨rfl, rfl, rfl, rfl, rfl, rfl, fun _ _ _ h => h⟩
theorem Alike.trans {x y z : Po} (h : Alike x y) (k : Alike y z) : Alike x z := ⟨k.1.trans h.1, k.2.1.trans h.2.1, k.2.2.1.trans h.2.2.1, k.2.2.2.1.trans h.2.2.2.1, k.2.2.2.2.1.trans h.2.2.2.2.1, k.2.2.2.2.2.1.trans h.2.2.2.2.2.1, fun q hq l hl => k.2.2.2.2.2.2 q (by rw [h.2.1]; exact hq) l (h.2.2.2.2.2.2 q hq l hl)⟩
theorem val_set {x : Po} {fs' : List Fm} (hp : fs'.map (·.pg) = x.fs.map (·.pg)) (hl : ∀ (i : Nat) (f : Fm), x.fs[i]? = some f → ∃ g : Fm, fs'[i]? = some g ∧ g.pg = f.pg ∧ g.l = f.l) {q : Nat} {l : List UInt8} (h : Val x q l) : Val { x with fs := fs' } q l := by
  rcases h with ⟨f, hf, rfl, rfl⟩ | ⟨hq, rfl⟩
  · obtain ⟨i, hi⟩ := List.mem_iff_getElem?.1 hf
    obtain ⟨g, hg, h1, h2⟩ := hl i f hi
    exact Or.inl ⟨g, List.mem_of_getElem? hg, h1, h2⟩
  · refine Or.inr ⟨?_, rfl⟩
    show q ∉ (ids fs').map (·.1)
    rw [ids_pg, hp, ← ids_pg]
    exact hq
theorem Fnd.alike {x x' : Po} {page : Nat} {f : Fm} (h : Fnd x x' page f) (hn : ((ids x.fs).map (·.1)).Nodup) : Alike x x' ∧ Val x page f.l ∧ f.pg = page := by
  rcases h with ⟨j, f0, hj, rfl, rfl, rfl⟩ | ⟨hno, hm, hf⟩
  · refine ⟨⟨rfl, rfl, rfl, rfl, rfl, rfl, fun q _ l hl => val_set (fs' := x.fs.set j { f0 with ask := true }) ?_ ?_ hl⟩, Or.inl ⟨f0, List.mem_of_getElem? hj, rfl, rfl⟩, rfl⟩
    · rw [← ids_pg, ids_set (f' := { f0 with ask := true }) hj rfl rfl, ids_pg]
    · intro i g hi
      by_cases e : i = j
      · subst e
        rw [hj] at hi
        cases hi
        exact ⟨_, List.getElem?_set_self (List.getElem?_eq_some_iff.1 hj).1, rfl, rfl⟩
      · exact ⟨g, by rw [List.getElem?_set_ne (fun h => e h.symm)]; exact hi, rfl, rfl⟩
  · rcases hm with ⟨_, a, c, rfl⟩ | ⟨_, y', k, j, f1, _, _, hf1, _, rfl, hk, hpq, hpf, _⟩
    · refine ⟨⟨rfl, rfl, rfl, rfl, rfl, rfl, fun q _ l hl => ?_⟩, Or.inr ⟨hno, by rw [hf]; rfl⟩, by rw [hf]; rfl⟩
      rcases hl with ⟨g, hg, h1, h2⟩ | ⟨hq, h2⟩
      · exact Or.inl ⟨g, List.mem_append_left _ hg, h1, h2⟩
      · by_cases e : q = page
        · subst e
          exact Or.inl ⟨_, List.mem_append_right _ (List.mem_singleton.2 rfl), rfl, h2⟩
        · refine Or.inr ⟨?_, h2⟩
          show q ∉ (ids (x.fs ++ [newF f.b page (pgD x.start x.y page)])).map (·.1)
          rw [ids_pg, List.map_append, List.mem_append, ← ids_pg]
          rintro (h | h)
          · exact hq h
          · simp [newF] at h
            exact e h
    · refine ⟨⟨rfl, rfl, rfl, rfl, rfl, rfl, fun q hqp l hl => ?_⟩, Or.inr ⟨hno, by rw [hf]; rfl⟩, by rw [hf]; rfl⟩
      have hlt : j < x.fs.length := (List.getElem?_eq_some_iff.1 hf1).1
      have hids : ids (turnS k (x.fs.set j { f1 with fst := 0 }, x.hand)).1 = ids x.fs := (turnS_ids _ _).trans (ids_set (f' := { f1 with fst := 0 }) hf1 rfl rfl)
      have hpgs : (ids (x.swapped y' k j f1 (newF f.b page (pgD x.start x.y page))).fs).map (·.1) = ((ids x.fs).map (·.1)).set j page := by
        show (ids ((turnS k (x.fs.set j { f1 with fst := 0 }, x.hand)).1.set j (newF f.b page (pgD x.start x.y page)))).map (·.1) = _
        rw [ids_pg, List.map_set, ← ids_pg, hids]
        rfl
      have hat : ∀ (i : Nat) (g : Fm), i ≠ j → x.fs[i]? = some g → ∃ g' : Fm, (x.swapped y' k j f1 (newF f.b page (pgD x.start x.y page))).fs[i]? = some g' ∧ g'.pg = g.pg ∧ g'.l = g.l := by
        intro i g hij hg
        have hil : i < (turnS k (x.fs.set j { f1 with fst := 0 }, x.hand)).1.length := by rw [turnS_len, List.length_set]; exact (List.getElem?_eq_some_iff.1 hg).1
        obtain ⟨g', h1, h2⟩ := turnS_at k (x.fs.set j { f1 with fst := 0 }, x.hand) i _ (List.getElem?_eq_getElem hil)
        have h3 : (x.fs.set j { f1 with fst := 0 })[i]? = some g := by rw [List.getElem?_set_ne (fun h => hij h.symm)]; exact hg
        rw [h3] at h1
        cases h1
        refine ⟨(turnS k (x.fs.set j { f1 with fst := 0 }, x.hand)).1[i], ?_, ?_⟩
        · show ((turnS k (x.fs.set j { f1 with fst := 0 }, x.hand)).1.set j _)[i]? = _
          rw [List.getElem?_set_ne (fun h => hij h.symm)]
          exact List.getElem?_eq_getElem hil
        · rcases h2 with h2 | h2 <;> rw [h2] <;> exact ⟨rfl, rfl⟩
      have hnj : (x.swapped y' k j f1 (newF f.b page (pgD x.start x.y page))).fs[j]? = some (newF f.b page (pgD x.start x.y page)) := by
        show ((turnS k (x.fs.set j { f1 with fst := 0 }, x.hand)).1.set j _)[j]? = _
        rw [List.getElem?_set_self]
        rw [turnS_len, List.length_set]
        exact hlt
      rcases hl with ⟨g, hg, h1, h2⟩ | ⟨hq, h2⟩
      · obtain ⟨i, hi⟩ := List.mem_iff_getElem?.1 hg
        by_cases e : i = j
        · subst e
          rw [hf1] at hi
          cases hi
          refine Or.inr ⟨?_, ?_⟩
          · rw [hpgs]
            intro hc
            have hmem := List.mem_iff_getElem?.1 hc
            obtain ⟨i', hi'⟩ := hmem
            by_cases e' : i' = i
            · subst e'
              rw [List.getElem?_set_self (by rw [ids_pg, List.length_map]; exact hlt)] at hi'
              cases hi'
              exact hno (h1 ▸ mem_ids hg)
            · rw [List.getElem?_set_ne (fun h => e' h.symm), ids_pg, List.getElem?_map] at hi'
              cases hg' : x.fs[i']? with
              | none => rw [hg'] at hi'; cases hi'
              | some g' =>
                rw [hg'] at hi'
                have : g'.pg = q := by simpa using hi'
                exact e' (pg_uniq hn hg' hf1 (this.trans h1.symm))
          · show pgD x.start y' q = l
            rw [← h1, hpf, h2]
        · obtain ⟨g', hg', h3, h4⟩ := hat i g e hi
          exact Or.inl ⟨g', List.mem_of_getElem? hg', h3.trans h1, h4.trans h2⟩
      · by_cases e : q = page
        · subst e
          exact Or.inl ⟨_, List.mem_of_getElem? hnj, rfl, h2⟩
        · refine Or.inr ⟨?_, ?_⟩
          · rw [hpgs]
            intro hc
            rcases List.mem_or_eq_of_mem_set hc with h | h
            · exact hq h
            · exact e h
          · show pgD x.start y' q = l
            rw [hpq q hqp (fun h => hq (h ▸ mem_ids (List.mem_of_getElem? hf1))), h2]
/-- How many frames there are. -/
theorem Fnd.length {x x' : Po} {page : Nat} {f : Fm} (h : Fnd x x' page f) : (x'.fs.length = x.fs.length ∧ (page ∈ (ids x.fs).map (·.1) ∨ x.fs.length = x.most)) ∨ (x.fs.length < x.most ∧ x'.fs.length = x.fs.length + 1 ∧ page ∉ (ids x.fs).map (·.1)) := by
  rcases h with ⟨j, f0, hj, rfl, rfl, rfl⟩ | ⟨hno, hm, hf⟩
  · exact Or.inl ⟨List.length_set, Or.inl (mem_ids (List.mem_of_getElem? hj))⟩
  · rcases hm with ⟨h1, a, c, rfl⟩ | ⟨h1, y', k, j, f1, _, _, hf1, _, rfl, hk, hpq, hpf, _⟩
    · exact Or.inr ⟨h1, by show (x.fs ++ [_]).length = _; rw [List.length_append]; rfl, hno⟩
    · refine Or.inl ⟨?_, Or.inr h1⟩
      show ((turnS k (x.fs.set j { f1 with fst := 0 }, x.hand)).1.set j _).length = _
      rw [List.length_set, turnS_len, List.length_set]
theorem Fnd.kin {x x' : Po} {page : Nat} {f : Fm} (h : Fnd x x' page f) : Kin x.y x'.y := by
  rcases h with ⟨j, f0, hj, rfl, rfl, rfl⟩ | ⟨hno, hm, hf⟩
  · exact Kin.refl _
  · rcases hm with ⟨h1, a, c, rfl⟩ | ⟨h1, y', k, j, f1, _, _, hf1, _, rfl, hk, hpq, hpf, _⟩
    · exact Kin.refl _
    · exact hk
end Go.Proofs.YtopaeomjndblkaaGreat

namespace Go.Proofs.YtopaeomjndblkaaGreat
open Go.RowKit Go.Maps

def cmpP (a b : Nat) : Int := if a < b then -1 else if b < a then 1 else 0
set_option maxHeartbeats 400000 in
theorem nanI_any (w : World) (x : Int) : Calls Tryz.prog 233 #[.int .i64 x] w fun e w' => e = .returned (.bool false) ∧ w' = w := by
  have h : (x != x) = false := by simp
  go_enter Tryz.func233, Tryz.ntmps233
  go_wp2
  go_ret
  exact ⟨rfl, rfl⟩
set_option maxHeartbeats 400000 in
theorem compare_any (w : World) (a b : Nat) : Calls Tryz.prog 190 #[.int .i64 (a : Int), .int .i64 (b : Int)] w fun e w' => e = .returned (.int .i64 (cmpP a b)) ∧ w' = w := by
  unfold cmpP
  by_cases h1 : a < b
  · have q1 : (a : Int) < (b : Int) := by omega
    rw [if_pos h1]
    go_enter Tryz.func190, Tryz.ntmps190
    go_wp2_with (go_at_call 233; refine (nanI_any _ _).mono ?_; rintro e wz ⟨rfl, hz⟩; rw [hz]; clear hz)
    go_ret
    exact ⟨rfl, rfl⟩
  · have q1 : ¬ (a : Int) < (b : Int) := by omega
    rw [if_neg h1]
    by_cases h2 : b < a
    · have q2 : (b : Int) < (a : Int) := by omega
      rw [if_pos h2]
      go_enter Tryz.func190, Tryz.ntmps190
      go_wp2_with (go_at_call 233; refine (nanI_any _ _).mono ?_; rintro e wz ⟨rfl, hz⟩; rw [hz]; clear hz)
      go_ret
      exact ⟨rfl, rfl⟩
    · have q2 : ¬ (b : Int) < (a : Int) := by omega
      rw [if_neg h2]
      go_enter Tryz.func190, Tryz.ntmps190
      go_wp2_with (go_at_call 233; refine (nanI_any _ _).mono ?_; rintro e wz ⟨rfl, hz⟩; rw [hz]; clear hz)
      go_ret
      exact ⟨rfl, rfl⟩
set_option maxHeartbeats 1000000 in
theorem rising1_any {w : World} {f g : Fm} (hf : FAt w f) (hg : FAt w g) : Calls Tryz.prog 189 #[.pointer (some ⟨f.b, 0, none⟩), .pointer (some ⟨g.b, 0, none⟩)] w fun e w' => e = .returned (.int .i64 (cmpP f.pg g.pg)) ∧ ∃ q, w' = w.drewN q := by
  have c0 := hf.c0
  have d0 := hg.c0
  clear hf hg
  go_enter Tryz.func189, Tryz.ntmps189
  go_wp2_with fail
  go_quiet ((go_at_call 190; exact Calls.quiet_of_same (compare_any _ _ _)))
  go_wp2
  go_ret
  exact ⟨rfl, _, rfl⟩
end Go.Proofs.YtopaeomjndblkaaGreat

namespace Go.Proofs.YtopaeomjndblkaaGreat
open Go.RowKit Go.Maps Go.Sort

theorem fr_sort {α : Type} [Inhabited α] (enc : α → Value) (w : World) (blk off m : Nat) (dk : Array α) (os : Array Obj) : Fr [blk] w (sortWorld enc w blk off m dk os) := by
  refine ⟨rfl, rfl, rfl, ?_, ?_⟩
  · show w.heap.size ≤ ((w.heap.modify blk _) ++ os).size
    simp
  · intro i hi hn
    show ((w.heap.modify blk _) ++ os)[i]? = w.heap[i]?
    rw [Array.getElem?_append_left (by simpa using hi), Array.getElem?_modify, if_neg (fun e => hn (by simp [e]))]
def cfP (F : Nat → Fm) (i j : Nat) : Int := cmpP (F i).pg (F j).pg
theorem lt_cfP (F : Nat → Fm) (i j : Nat) : ltOf (cfP F) i j = decide ((F i).pg < (F j).pg) := by
  unfold ltOf cfP cmpP
  by_cases h1 : (F i).pg < (F j).pg
  · simp [h1]
  · by_cases h2 : (F j).pg < (F i).pg <;> simp [h1, h2]
theorem swo_cfP (F : Nat → Fm) : SWO (ltOf (cfP F)) where
  irrefl x := by rw [lt_cfP]; simp
  trans x y z h1 h2 := by rw [lt_cfP] at *; simp at *; omega
  ntrans x y z h1 h2 := by rw [lt_cfP] at *; simp at *; omega
def encF (F : Nat → Fm) (k : Nat) : Value := .pointer (some ⟨(F k).b, 0, none⟩)
theorem sort_any {w : World} (g cap n : Nat) (ds : List Fm) (hl : ds.length = n) (h0 : 0 < n) (hn : n ≤ 1024) (cur : Array Value) (hrow : w.heap[g]? = some (.cells cur 159)) (htk : cur.toList.take n = slV ds) (hF : ∀ f ∈ ds, FAt w f) :
    Calls Tryz.prog 188 #[.slice (some ⟨g, 0, none⟩) n cap, .func (.func 189) #[] #[]] w fun e w' => e = .returned (.tuple #[]) ∧ ∃ ds' : List Fm, ds'.Perm ds ∧ ds'.Pairwise (fun a b => a.pg ≤ b.pg) ∧ (∀ (j : Nat) (f : Fm), ds'[j]? = some f → w'.cell? ⟨g, j, none⟩ = some (.pointer (some ⟨f.b, 0, none⟩))) ∧ Fr [g] w w' := by
  obtain ⟨f0, hf0⟩ : ∃ f0, ds[0]? = some f0 := ⟨_, List.getElem?_eq_getElem (by omega)⟩
  let F : Nat → Fm := fun k => (ds[k]?).getD f0
  have hFm : ∀ k, F k ∈ ds := fun k => by
    show (ds[k]?).getD f0 ∈ ds
    cases hk : ds[k]? with
    | some f => exact List.mem_of_getElem? hk
    | none => exact List.mem_of_getElem? hf0
  have hcell : ∀ j, j < n → w.cell? ⟨g, j, none⟩ = some (encF F j) := fun j hj => by
    rw [cell_of_row w g j _ _ _ hrow]
    have h1 : (cur.toList.take n)[j]? = (slV ds)[j]? := by rw [htk]
    rw [List.getElem?_take, if_pos hj] at h1
    have h2 : (slV ds)[j]? = some (encF F j) := by
      unfold slV encF
      rw [List.getElem?_map]
      show Option.map _ ds[j]? = some (Value.pointer (some ⟨((ds[j]?).getD f0).b, 0, none⟩))
      rw [List.getElem?_eq_getElem (by omega)]
      rfl
    rw [h2] at h1
    simpa using h1
  have hfr : ∀ j, w.frozen? ⟨g, j, none⟩ = false := fun j => frozen_of_row w g j _ _ hrow
  have hrg : ∀ j, j < (Array.range n).size → (Array.range n)[j]! = j := fun j hj => by
    rw [getElem!_pos (Array.range n) j hj]
    simp
  have hH : Holds (encF F) w g 0 (Array.range n) := fun j hj => by
    rw [hrg j hj, Nat.zero_add]
    exact ⟨hcell j (by simpa using hj), hfr j⟩
  have hne : ∀ f ∈ ds, f.b ∉ [g] := fun f hf e => by
    simp at e
    exact (hF f hf).tyne hrow (by decide) e
  have eg : ∀ args w, (callFunc 189 args).run Tryz.prog w = .ok (.enter 189 args) w := enters_of Tryz.func189 (by kernel_rfl) rfl
  have hcmp : CmpReads Tryz.prog 189 #[] (encF F) (cfP F) g 0 (Array.range n).size w := fun m os dk _ x y => rising1_any ((hF _ (hFm x)).kept (fr_sort _ w g 0 m dk os) (hne _ (hFm x))) ((hF _ (hFm y)).kept (fr_sort _ w g 0 m dk os) (hne _ (hFm y)))
  have hcon := Any.slices_SortFunc Tryz.laysSort (encF F) (fun _ => rfl) (cfP F) (swo_cfP F) 189 #[] g 0 cap (Array.range n) w eg hcmp.lays hH (Array.getElem?_eq_some_iff.1 hrow).1 (by simp; omega)
  change Calls Tryz.prog 188 _ _ _ at hcon
  rw [Array.size_range] at hcon
  refine hcon.mono ?_
  rintro e w' ⟨rfl, d', m, os, hp, hs, rfl⟩
  have hsz : d'.size = n := by rw [hp.1]; simp
  have hpd : d'.toList.Perm (List.range n) := by
    have h1 := hp.2.2
    have e1 : (d'.extract 0 n) = d' := by rw [← hsz]; simp
    have e2 : (Array.range n).extract 0 n = Array.range n := by
      have : n = (Array.range n).size := by simp
      conv => lhs; arg 3; rw [this]
      simp
    rw [e1, e2] at h1
    simpa using h1
  refine ⟨rfl, d'.toList.map F, ?_, ?_, ?_, fr_sort _ _ _ _ _ _ _⟩
  · have h1 := hpd.map F
    have h2 : (List.range n).map F = ds := by
      apply List.ext_getElem?
      intro i
      rw [List.getElem?_map]
      by_cases hi : i < n
      · rw [List.getElem?_range hi, List.getElem?_eq_getElem (by omega)]
        show some ((ds[i]?).getD f0) = _
        rw [List.getElem?_eq_getElem (by omega)]
        rfl
      · rw [List.getElem?_eq_none (by simpa using hi), List.getElem?_eq_none (by omega)]
        rfl
    rw [h2] at h1
    exact h1
  · rw [List.pairwise_iff_getElem]
    intro i j hi hj hij
    simp only [List.length_map, Array.length_toList] at hi hj
    have h1 := hs i j (Nat.zero_le _) hij (by omega)
    rw [lt_cfP, getElem!_pos _ _ (by omega), getElem!_pos _ _ (by omega)] at h1
    simp at h1
    simpa using h1
  · intro j f hj
    rw [List.getElem?_map] at hj
    have hjn : j < n := by
      rcases Nat.lt_or_ge j n with h | h
      · exact h
      · rw [List.getElem?_eq_none (by simp; omega)] at hj
        cases hj
    have hh : Holds (encF F) (sortWorld (encF F) w g 0 m d' os) g 0 d' := by
      unfold sortWorld
      refine holds_grow _ _ _ _ _ _ ?_ (holds_putRow _ _ _ _ (Array.range n) d' hH (by rw [hsz]; simp))
      show g < (w.heap.modify g _).size
      simpa using (Array.getElem?_eq_some_iff.1 hrow).1
    have h1 := (hh j (by omega)).1
    rw [Nat.zero_add] at h1
    rw [h1]
    rw [List.getElem?_eq_getElem (by simp; omega)] at hj
    simp at hj
    rw [getElem!_pos _ _ (by omega), ← hj]
    rfl
end Go.Proofs.YtopaeomjndblkaaGreat

namespace Go.Proofs.YtopaeomjndblkaaGreat
open Go.RowKit Go.Maps

def dirtyB (f : Fm) : Bool := decide (0 < f.fst)
/-- The dirty frames of a pool. -/
def dirtyL (fs : List Fm) : List Fm := fs.filter dirtyB
theorem dirty_take {fs : List Fm} {i : Nat} {f : Fm} (h : fs[i]? = some f) : dirtyL (fs.take (i + 1)) = dirtyL (fs.take i) ++ (if dirtyB f then [f] else []) := by
  unfold dirtyL
  rw [List.take_add_one, h, List.filter_append]
  cases hd : dirtyB f <;> simp [hd]
/-- A row of frames in a slice that is new. -/
structure FRow (w0 w : World) (ad : Option Addr) (n c : Nat) (ds : List Fm) : Prop where
  own : w.ownsRow 0 159 1 (.slice ad n c) n (slV ds)
  new : ∀ g ∈ (Value.ownBlock (.slice ad n c)).toList, w0.heap.size ≤ g
  fr : Fr [] w0 w
  len : ds.length = n
  nl : n = 0 → ad = none ∧ c = 0
theorem FRow.nil (w : World) : FRow w w none 0 0 [] := ⟨⟨by simp [slV], Or.inl ⟨rfl, rfl⟩⟩, fun g hg => (nomatch hg), Fr.refl _ _, rfl, fun _ => ⟨rfl, rfl⟩⟩
/-- The rising frames, as a slice of pointers. -/
structure RRow (w0 w : World) (ad : Option Addr) (ds : List Fm) : Prop where
  cell : ∀ (j : Nat) (f : Fm), ds[j]? = some f → ∃ g, ad = some ⟨g, 0, none⟩ ∧ w.cell? ⟨g, j, none⟩ = some (.pointer (some ⟨f.b, 0, none⟩))
  new : ∀ g o, ad = some ⟨g, o, none⟩ → w0.heap.size ≤ g
  fr : Fr [] w0 w
structure Rising (fs ds : List Fm) : Prop where
  perm : ds.Perm (dirtyL fs)
  up : ds.Pairwise (fun a b => a.pg ≤ b.pg)
set_option maxHeartbeats 2000000 in
set_option maxRecDepth 100000 in
theorem rising_any {w : World} {x : Po} (h : PoAt w x) : Calls Tryz.prog 86 #[.pointer (some ⟨x.pp, 0, none⟩)] w fun e w' => ∃ (ad : Option Addr) (n c : Nat) (ds : List Fm), e = .returned (.slice ad n c) ∧ ds.length = n ∧ n ≤ c ∧ RRow w w' ad ds ∧ Rising x.fs ds := by
  have c5 := h.box.c5
  have r0 : w.cell? ⟨x.pf.rp, 0, none⟩ = some (.slice x.sa x.fs.length x.sc) := h.rn.r0
  have HH := hidI h
  obtain ⟨n, HN⟩ : ∃ n, Hid (x.fs.length = n) := ⟨_, rfl⟩
  rw [HN.out] at r0
  have hn : n ≤ 1024 := by have h1 := h.hl; have h2 := h.m1; have := HN.out; omega
  clear h
  go_enter Tryz.func86, Tryz.ntmps86
  go_wp2_with fail
  go_loopw [3, 14] (fun s3 s14 wr => ∃ (i : Nat) (ad : Option Addr) (m c : Nat), i ≤ n ∧ m ≤ i ∧ s3 = .slice ad m c ∧ s14 = .int .i64 (i : Int) ∧ Hid (FRow w wr ad m c (dirtyL (x.fs.take i)))) (fun _ s14 _ => n - (intOf s14).toNat)
  case atStart => exact ⟨0, none, 0, 0, by omega, by omega, rfl, rfl, hidI (FRow.nil w)⟩
  case round =>
    obtain ⟨i, ad, m, c, hi, hmi, rfl, rfl, R⟩ := hrel
    by_cases hlt : i < n
    · have q1 : (i : Int) < (n : Int) := by omega
      have q0 : (0 : Int) ≤ (i : Int) := by omega
      have hwi : IntKind.i64.wrap ((i : Int) + 1) = (i : Int) + 1 := wrapI _ (by omega) (by omega)
      obtain ⟨f, hf⟩ : ∃ f, x.fs[i]? = some f := ⟨_, List.getElem?_eq_getElem (by have := HN.out; omega)⟩
      have HR := hidI (HH.out.kept R.out.fr (by simp))
      obtain ⟨g, cur, hsa, hg, hsc, hmx, hsz, htk⟩ := HR.out.rn.at (by have := HN.out; omega)
      have cj := row_cell hg htk hf
      have FA := hidI (HR.out.rn.frames f (List.mem_of_getElem? hf))
      have HTK := hidI (dirty_take hf)
      clear hg htk hsz
      rw [hsa]
      by_cases hd : 0 < f.fst
      · have hdt : decide (0 < f.fst) = true := decide_eq_true hd
        have HDB : Hid (dirtyL (x.fs.take (i + 1)) = dirtyL (x.fs.take i) ++ [f]) := hidI (by rw [HTK.out]; unfold dirtyB; rw [hdt]; rfl)
        have FA1 := hidI ((Fr.refl [] wr).alloc (.cells #[.pointer (some ⟨f.b, 0, none⟩)] 159))
        go_wp2_with (first
          | (go_at_call 187; refine (dirty_any FA.out).mono ?_; rw [hdt]; rintro e wz ⟨rfl, hz⟩; rw [hz]; clear hz)
          | (refine wp_appF rfl _ _ rfl ad m c (dirtyL (x.fs.take i)) wr.heap.size f rfl rfl (own0_kept (L := []) R.out.own FA1.out (fun g' hg' => nomatch hg')) (heap_alloc_new wr _) (by omega) ?_; intro g5 c5 w5 o5 f5 n5))
        refine ⟨⟨i + 1, some ⟨g5, 0, none⟩, m + 1, c5, by omega, by omega, by first | rfl | trivial, by go_num, hidI ⟨?_, ?_, ?_, ?_, fun h => absurd h (by omega)⟩⟩, by simp [intOf]; omega⟩
        · rw [HDB.out]
          exact o5
        · intro k hk
          simp [Value.ownBlock] at hk
          subst hk
          rcases n5 with h1 | h1
          · exact R.out.new _ (by rw [h1]; simp)
          · have := R.out.fr.size
            simp at h1
            omega
        · refine (R.out.fr.trans FA1.out).then f5 (fun k hk hm => ?_)
          have := R.out.new k hm
          omega
        · rw [HDB.out, List.length_append, R.out.len]
          rfl
      · have hdt : decide (0 < f.fst) = false := decide_eq_false hd
        have HDB : Hid (dirtyL (x.fs.take (i + 1)) = dirtyL (x.fs.take i)) := hidI (by rw [HTK.out]; unfold dirtyB; rw [hdt]; simp)
        go_wp2_with (go_at_call 187; refine (dirty_any FA.out).mono ?_; rw [hdt]; rintro e wz ⟨rfl, hz⟩; rw [hz]; clear hz)
        refine ⟨⟨i + 1, ad, m, c, by omega, by omega, by first | rfl | trivial, by go_num, hidI ?_⟩, by simp [intOf]; omega⟩
        rw [HDB.out]
        exact R.out
    · have q1 : ¬ (i : Int) < (n : Int) := by omega
      have hin : i = n := by omega
      have HALL : Hid (dirtyL (x.fs.take i) = dirtyL x.fs) := hidI (by rw [List.take_of_length_le (by have := HN.out; omega)])
      have hlen := R.out.len
      by_cases hm0 : m = 0
      · subst hm0
        obtain ⟨rfl, rfl⟩ := R.out.nl rfl
        go_wp2_with (go_at_call 188; refine (sort_zero _ _).mono ?_; rintro e wz ⟨rfl, hz⟩; rw [hz]; clear hz)
        go_ret
        refine ⟨none, 0, 0, [], rfl, rfl, Nat.le_refl _, ⟨fun j f hj => by simp at hj, fun g' o e => (nomatch e), R.out.fr⟩, ⟨?_, List.Pairwise.nil⟩⟩
        rw [← HALL.out, List.eq_nil_of_length_eq_zero hlen]
      · obtain ⟨g, cur, hsa, hg, hmc, htk⟩ : ∃ g cur, ad = some ⟨g, 0, none⟩ ∧ wr.heap[g]? = some (.cells cur 159) ∧ m ≤ c ∧ cur.toList.take m = slV (dirtyL (x.fs.take i)) := by
          rcases R.out.own.2 with ⟨e, h1⟩ | ⟨g, c', cur, e, hb, hg, hnc, hcm, hcs, ht⟩
          · omega
          · cases e
            exact ⟨g, cur, rfl, hg, hnc, by rw [Nat.mul_one] at ht; exact ht⟩
        subst hsa
        have HS := hidI (sort_any g c m (dirtyL (x.fs.take i)) hlen (by omega) (by omega) cur hg htk (fun f hf => ((HH.out.kept R.out.fr (by simp)).rn.frames f (by
          have h1 : f ∈ x.fs.take i := (List.mem_filter.1 hf).1
          exact List.mem_of_mem_take h1))))
        have hgn := hidI (R.out.new g (by simp [Value.ownBlock]))
        clear hg htk
        go_wp2_with (go_at_call 188; refine HS.out.mono ?_; rintro e w5 ⟨rfl, ds', hp, hup, hc, f5⟩)
        go_ret
        refine ⟨_, _, _, ds', rfl, ?_, hmc, ⟨fun j f hj => ⟨g, rfl, hc j f hj⟩, fun g' o e => by cases e; exact hgn.out, R.out.fr.then f5 (fun k hk hm => by simp at hm; subst hm; have := hgn.out; omega)⟩, ⟨by rw [← HALL.out]; exact hp, hup⟩⟩
        rw [hp.length_eq]
        exact hlen
end Go.Proofs.YtopaeomjndblkaaGreat

namespace Go.Proofs.YtopaeomjndblkaaGreat
open Go.RowKit Go.Maps

set_option maxHeartbeats 2000000 in
theorem pwrite_step {w : World} {x : Po} (h : PoAt w x) {j : Nat} {f : Fm} (hj : x.fs[j]? = some f) :
    Calls Tryz.prog 173 #[.pointer (some ⟨x.pp, 0, none⟩), .pointer (some ⟨f.b, 0, none⟩)] w fun e w' => e = .returned (.int .i64 0) ∧ Step w w' x (x.saved { x.y with O := Dv.Tab.put x.y.O ((x.start : Int) + (f.pg : Int)) f.l } j f) := by
  have hm := List.mem_of_getElem? hj
  have hfa := h.rn.frames f hm
  have hok := h.ok f hm
  have FO := Forced.refl x.y
  have HD2 : Hid (Dv.Dev w x.pf.d x.y.bs x.y.bo x.y.nb 0 false x.y.S x.y.O) := hidI h.lo.dev
  have HF2 := hidI hfa
  have HR2 := hidI h.rn
  have HB2 := hidI h.box
  have M2 := h.mp
  have hkn : (x.pf.start : Int) + (f.pg : Int) < x.y.nb := by
    have h1 := h.area
    have h2 := hok.pg
    show (x.start : Int) + (f.pg : Int) < x.y.nb
    omega
  refine (pwrite_any HB2.out HD2.out HF2.out hkn).mono ?_
  rintro e w3 ⟨rfl, D3, F3, f3⟩
  have hbo : ∀ S, pMap w x.mp S → x.mp ∉ [x.pf.d, x.y.bo, f.b] := by
    intro S hS e
    simp only [List.mem_cons, List.not_mem_nil, or_false] at e
    rcases e with e | e | e
    · have h1 := HD2.out.cells
      rw [← e] at h1
      exact hS.notcells _ _ h1
    · rw [FO.bo] at e
      exact h.mne.2 e
    · have h1 := HF2.out.at'
      rw [← e] at h1
      exact hS.notcells _ _ h1
  have hty : ∀ (t : TypeId), t ≠ 180 → t ≠ 162 → ∀ g ∈ [x.pf.d, x.y.bo, f.b], ∀ cur t', w.heap[g]? = some (.cells cur t') → t' ≠ t := by
    intro t h1 h2 g hg cur t' e et
    subst et
    simp only [List.mem_cons, List.not_mem_nil, or_false] at hg
    rcases hg with rfl | rfl | rfl
    · rw [HD2.out.cells] at e
      cases e
      exact h1 rfl
    · obtain ⟨D', ⟨es, clock, hb, _⟩, _⟩ := HD2.out.opn
      rw [hb] at e
      cases e
    · rw [HF2.out.at'] at e
      cases e
      exact h2 rfl
  have nin : ∀ k cur t, w.heap[k]? = some (.cells cur t) → t ≠ 180 → t ≠ 162 → k ∉ [x.pf.d, x.y.bo, f.b] := fun k cur t hc h1 h2 hk => hty t h1 h2 k hk cur t hc rfl
  refine ⟨rfl, ?_, ?_, ?_⟩
  · have L2 := h.lo
    have LO : LoAt w3 { x.y with O := Dv.Tab.put x.y.O ((x.start : Int) + (f.pg : Int)) f.l } :=
      { L2 with
        dev := by
          have h1 := D3
          rw [show x.pf.d = x.y.d from FO.d.symm] at h1
          exact h1
        box := L2.box.kept f3 (nin _ _ _ L2.box (by decide) (by decide))
        bsA := own0_kept L2.bsA f3 (hty 5 (by decide) (by decide))
        lsA := own0_kept L2.lsA f3 (hty 2 (by decide) (by decide)) }
    have hrn : ∀ k ∈ ownR x.rp x.sa x.fs, k ≠ f.b → k ∉ [x.pf.d, x.y.bo, f.b] := by
      intro k hk hne e
      simp only [List.mem_cons, List.not_mem_nil, or_false] at e
      obtain ⟨cur, t, hc, ht⟩ := HR2.out.types k hk
      rcases e with e | e | e
      · rw [e, HD2.out.cells] at hc
        cases hc
        exact absurd ht (by decide)
      · obtain ⟨D', ⟨es, clock, hb, _⟩, _⟩ := HD2.out.opn
        rw [e, hb] at hc
        cases hc
      · exact hne e
    have hk' := FO.kin
    refine { lo := LO, box := ?_, rn := HR2.out.setF' hj rfl F3 f3 hrn, mp := ?_, mne := ?_, nod := ?_, ok := ?_, hl := ?_, m0 := h.m0, m1 := h.m1, hh := ?_, hh0 := ?_, p1 := h.p1, area := ?_, dis := ?_, hlw := h.hlw }
    · have h1 : PBox' w3 x.pp x.pf := HB2.out.kept f3 (nin _ _ _ HB2.out (by decide) (by decide))
      have h2 : (x.saved { x.y with O := Dv.Tab.put x.y.O ((x.start : Int) + (f.pg : Int)) f.l } j f).pf = x.pf := by
        show Pf.mk x.y.d x.y.p x.start x.pages x.most x.rp x.mp = Pf.mk x.y.d x.y.p x.start x.pages x.most x.rp x.mp
        rw [FO.d, FO.p]
      show PBox' w3 x.pp _
      rw [h2]
      exact h1
    · obtain ⟨S, hm2, ht⟩ := M2
      exact ⟨S, hm2.kept f3 (hbo S hm2), by show TabOk S (ids (x.fs.set j { f with fst := 0 })); rw [ids_set (f' := { f with fst := 0 }) hj rfl rfl]; exact ht⟩
    · show x.mp ≠ x.y.bs ∧ x.mp ≠ x.y.bo
      rw [FO.bs, FO.bo]
      exact h.mne
    · show ((ids (x.fs.set j { f with fst := 0 })).map (·.1)).Nodup
      rw [ids_set (f' := { f with fst := 0 }) hj rfl rfl]
      exact h.nod
    · intro g hg
      rcases mem_set hj hg with rfl | ⟨i, hi, hgi⟩
      · exact ⟨hok.pg, hok.h0, hok.h1, Int.le_refl _, hok.l0, by show f.lst ≤ (x.y.E : Int); rw [FO.E]; exact hok.l1, fun _ => by show f.l = Dv.latest x.y.S (Dv.Tab.put x.y.O ((x.start : Int) + (f.pg : Int)) f.l) ((x.start : Int) + (f.pg : Int)); rw [latest_put, if_pos rfl]⟩
      · have hgo := h.ok g (List.mem_of_getElem? hgi)
        have hne := pg_ne h.nod hgi hj hi
        refine hgo.turn (hk'.put (by have := h.hlw; omega)) ?_
        show Dv.latest x.y.S (Dv.Tab.put x.y.O ((x.start : Int) + (f.pg : Int)) f.l) ((x.start : Int) + (g.pg : Int)) = _
        rw [latest_put, if_neg (by omega)]
        exact FO.pg h.dis hgo.pg
    · show (x.fs.set j _).length ≤ x.most
      rw [List.length_set]
      exact h.hl
    · show (x.fs.set j _).length = x.most → _
      rw [List.length_set]
      exact h.hh
    · show (x.fs.set j _).length < x.most → _
      rw [List.length_set]
      exact h.hh0
    · show (x.start : Int) + (x.pages : Int) ≤ x.y.nb
      rw [FO.nb]
      exact h.area
    · show (x.start : Int) + (x.pages : Int) ≤ x.y.first ∨ x.y.first + x.y.count ≤ (x.start : Int)
      rw [FO.first, FO.count]
      exact h.dis
  · refine f3.mono (fun k _ hk => ?_)
    simp only [List.mem_cons, List.not_mem_nil, or_false] at hk
    rcases hk with rfl | rfl | rfl
    · simp [Po.own, Lo.own, Po.pf]
    · simp [Po.own, Lo.own]
    · exact own_b hj
  · intro k hk
    have hk2 : k = x.mp ∨ k ∈ ownR x.rp x.sa (x.fs.set j { f with fst := 0 }) ∨ k ∈ x.y.own := by
      simpa [Po.own, Po.saved, Lo.own] using hk
    rw [ownR_set (f' := { f with fst := 0 }) hj rfl] at hk2
    left
    simp only [Po.own, List.mem_cons, List.mem_append]
    exact hk2
end Go.Proofs.YtopaeomjndblkaaGreat

namespace Go.Proofs.YtopaeomjndblkaaGreat
open Go.RowKit Go.Maps

def cleanF (f : Fm) : Fm := { f with fst := 0 }
/-- The frames, of which those at some blocks are clean. -/
def cleanB (bl : List Nat) (fs : List Fm) : List Fm := fs.map fun f => if f.b ∈ bl then cleanF f else f
theorem cleanB_nil (fs : List Fm) : cleanB [] fs = fs := by
  unfold cleanB
  simp
theorem cleanB_at {bl : List Nat} {fs : List Fm} {j : Nat} {f : Fm} (hj : fs[j]? = some f) : (cleanB bl fs)[j]? = some (if f.b ∈ bl then cleanF f else f) := by
  unfold cleanB
  rw [List.getElem?_map, hj]
  rfl
theorem b_uniq {fs : List Fm} (hn : (fs.map (·.b)).Nodup) {i j : Nat} {f g : Fm} (hi : fs[i]? = some f) (hj : fs[j]? = some g) (he : f.b = g.b) : i = j := by
  have h1 : (fs.map (·.b))[i]? = some f.b := by rw [List.getElem?_map, hi]; rfl
  have h2 : (fs.map (·.b))[j]? = some f.b := by rw [List.getElem?_map, hj, he]; rfl
  obtain ⟨hl1, e1⟩ := List.getElem?_eq_some_iff.1 h1
  obtain ⟨hl2, e2⟩ := List.getElem?_eq_some_iff.1 h2
  have hp := List.pairwise_iff_getElem.1 hn
  rcases Nat.lt_trichotomy i j with h | h | h
  · exact absurd (e1.trans e2.symm) (hp i j hl1 hl2 h)
  · exact h
  · exact absurd (e2.trans e1.symm) (hp j i hl2 hl1 h)
theorem cleanB_set {bl : List Nat} {fs : List Fm} (hn : (fs.map (·.b)).Nodup) {j : Nat} {f : Fm} (hj : fs[j]? = some f) : (cleanB bl fs).set j (cleanF f) = cleanB (bl ++ [f.b]) fs := by
  apply List.ext_getElem?
  intro i
  by_cases e : i = j
  · subst e
    rw [List.getElem?_set_self (by unfold cleanB; rw [List.length_map]; exact (List.getElem?_eq_some_iff.1 hj).1), cleanB_at hj, if_pos (by simp)]
  · rw [List.getElem?_set_ne (fun h => e h.symm)]
    unfold cleanB
    rw [List.getElem?_map, List.getElem?_map]
    cases hi : fs[i]? with
    | none => rfl
    | some g =>
      have hne : g.b ≠ f.b := fun h => e (b_uniq hn hi hj h)
      simp [hne]
theorem cleanB_pg (bl : List Nat) (fs : List Fm) : (cleanB bl fs).map (·.pg) = fs.map (·.pg) := by
  unfold cleanB
  rw [List.map_map]
  refine List.map_congr_left fun f _ => ?_
  show (if f.b ∈ bl then cleanF f else f).pg = f.pg
  split <;> rfl
/-- What a pool is behind Flush: its frames are clean, on the device stands what they have. -/
structure Flushed (x x' : Po) : Prop where
  al : Alike x x'
  fs : x'.fs = x.fs.map cleanF
  kin : Kin x.y x'.y
  clean : ∀ f ∈ x'.fs, f.fst = 0
  len : x'.fs.length = x.fs.length
  on : ∀ q, q < x.pages → ∀ l, Val x q l → pgD x.start x'.y q = l
  sync : x'.y.O = Dv.Tab.none
  safe : ∀ f ∈ x.fs, 0 < f.fst → f.lst ≤ (x'.y.P : Int)
/-- While dirty pages are written. -/
structure Mdw (w wr : World) (x : Po) (bl pl : List Nat) (yi : Lo) : Prop where
  st : Step w wr x { x with y := yi, fs := cleanB bl x.fs }
  kin : Kin x.y yi
  pg : ∀ q, q < x.pages → q ∉ pl → pgD x.start yi q = pgD x.start x.y q
theorem Rising.nodb {fs ds : List Fm} (h : Rising fs ds) (hn : (fs.map (·.b)).Nodup) : (ds.map (·.b)).Nodup := by
  have h1 : (ds.map (·.b)).Perm ((dirtyL fs).map (·.b)) := h.perm.map _
  refine h1.nodup_iff.2 ?_
  exact List.Nodup.sublist (List.Sublist.map _ List.filter_sublist) hn
theorem Rising.mem {fs ds : List Fm} (h : Rising fs ds) {f : Fm} (hf : f ∈ ds) : f ∈ fs ∧ 0 < f.fst := by
  have h1 := h.perm.mem_iff.1 hf
  have h2 := List.mem_filter.1 h1
  exact ⟨h2.1, by simpa [dirtyB] using h2.2⟩
theorem Rising.has {fs ds : List Fm} (h : Rising fs ds) {f : Fm} (hf : f ∈ fs) (hd : 0 < f.fst) : f ∈ ds := h.perm.mem_iff.2 (List.mem_filter.2 ⟨hf, by simpa [dirtyB] using hd⟩)
set_option maxHeartbeats 2000000 in
theorem flush_any {w : World} {x : Po} (h : PoAt w x) : Calls Tryz.prog 72 #[.pointer (some ⟨x.pp, 0, none⟩)] w fun e w' => e = .returned (.int .i64 0) ∧ ∃ x', Step w w' x x' ∧ Flushed x x' := by
  have HH := hidI h
  have hm1 := h.m1
  have hhl := h.hl
  clear h
  go_enter Tryz.func72, Tryz.ntmps72
  go_wp2_with (go_at_call 75; refine (pmade_yes HH.out.box).mono ?_; rintro e wz ⟨rfl, hz⟩; rw [hz]; clear hz)
  refine (rising_any HH.out).mono ?_
  rintro e w1 ⟨ad, n, c, ds, rfl, hn, hnc, RR, RI⟩
  have HRR := hidI RR
  have HRI := hidI RI
  have HN := hidI hn
  have hle : n ≤ 1024 := by
    have h1 : ds.length ≤ x.fs.length := by
      rw [RI.perm.length_eq]
      exact List.length_filter_le _ _
    omega
  have H1 := hidI (HH.out.kept RR.fr (by simp))
  clear RR RI hn
  go_wp2_with fail
  refine (cover_any H1.out.box H1.out.lo rfl ad n c ds HN.out hle HRR.out.cell (fun f hf => ⟨H1.out.rn.frames f (HRI.out.mem hf).1, (H1.out.ok f (HRI.out.mem hf).1).l1⟩)).mono ?_
  rintro e w2 ⟨rfl, y', L2, FO, hP, hown, f2⟩
  have ST2 := hidI (Step.lower H1.out L2 f2 (fun k hk => by simp only [Lo.own, List.mem_append]; exact Or.inl hk) hown FO.d FO.p FO.bs FO.bo FO.nb FO.first FO.count (Nat.le_of_eq FO.E.symm) (fun q hq => FO.pg H1.out.dis hq) FO.lw)
  have HFO := hidI FO
  have HP := hidI hP
  have hrow : Hid (∀ wr, Fr x.own w1 wr → ∀ (j : Nat) (f : Fm), ds[j]? = some f → ∃ g, ad = some ⟨g, 0, none⟩ ∧ wr.cell? ⟨g, j, none⟩ = some (.pointer (some ⟨f.b, 0, none⟩))) := hidI (fun wr fr j f hj => by
    obtain ⟨g, rfl, hc⟩ := HRR.out.cell j f hj
    refine ⟨g, rfl, ?_⟩
    rw [← hc]
    refine World.cell?_of_block (fr.block g (block_lt_of_cell hc) (fun e => ?_))
    have h3 := HRR.out.new g 0 rfl
    have h4 := HH.out.lt g (List.mem_cons_of_mem _ e)
    omega)
  clear L2 FO hP hown
  go_wp2_with fail
  go_loopw [21] (fun s21 wr => ∃ i : Nat, i ≤ n ∧ s21 = .int .i64 (i : Int) ∧ ∃ yi, Hid (Mdw w1 wr x ((ds.take i).map (·.b)) ((ds.take i).map (·.pg)) yi ∧ y'.P ≤ yi.P)) (fun s21 _ => n - (intOf s21).toNat)
  case atStart =>
    refine ⟨0, by omega, rfl, y', hidI ⟨⟨?_, HFO.out.kin, fun q hq _ => HFO.out.pg H1.out.dis hq⟩, Nat.le_refl _⟩⟩
    have e1 : ({ x with y := y', fs := cleanB ((ds.take 0).map (·.b)) x.fs } : Po) = { x with y := y' } := by
      rw [List.take_zero, List.map_nil, cleanB_nil]
    rw [e1]
    exact ST2.out
  case round =>
    obtain ⟨i, hi, rfl, yi, HM⟩ := hrel
    have HX := hidI HM.out.1.st.at'
    by_cases hlt : i < n
    · have q1 : (i : Int) < (n : Int) := by omega
      have q0 : (0 : Int) ≤ (i : Int) := by omega
      have hwi : IntKind.i64.wrap ((i : Int) + 1) = (i : Int) + 1 := wrapI _ (by omega) (by omega)
      obtain ⟨f, hf⟩ : ∃ f, ds[i]? = some f := ⟨_, List.getElem?_eq_getElem (by have := HN.out; omega)⟩
      obtain ⟨g, rfl, cj⟩ := hrow.out wr HM.out.1.st.fr i f hf
      obtain ⟨hfm, hfd⟩ := HRI.out.mem (List.mem_of_getElem? hf)
      obtain ⟨j, hj⟩ := List.mem_iff_getElem?.1 hfm
      have hnb : f.b ∉ (ds.take i).map (·.b) := fun e => by
        obtain ⟨g', hg', he⟩ := List.mem_map.1 e
        obtain ⟨k, hk⟩ := List.mem_iff_getElem?.1 hg'
        have hki : k < i := by
          have := (List.getElem?_eq_some_iff.1 hk).1
          rw [List.length_take] at this
          omega
        rw [List.getElem?_take, if_pos hki] at hk
        have := b_uniq (HRI.out.nodb HH.out.rn.nod) hk hf he
        omega
      have hjc : (cleanB ((ds.take i).map (·.b)) x.fs)[j]? = some f := by rw [cleanB_at hj, if_neg hnb]
      have HW := hidI (pwrite_step HX.out hjc)
      have HSET := hidI (cleanB_set (bl := (ds.take i).map (·.b)) HH.out.rn.nod hj)
      have HTK : Hid ((ds.take (i + 1)).map (·.b) = (ds.take i).map (·.b) ++ [f.b] ∧ (ds.take (i + 1)).map (·.pg) = (ds.take i).map (·.pg) ++ [f.pg]) := hidI (by rw [List.take_add_one, hf]; simp)
      clear hjc hnb
      go_wp2_with (go_at_call 173; refine HW.out.mono ?_; rintro e w3 ⟨rfl, st3⟩)
      refine ⟨⟨i + 1, by omega, by go_num, { yi with O := Dv.Tab.put yi.O ((x.start : Int) + (f.pg : Int)) f.l }, hidI ⟨⟨?_, ?_, ?_⟩, HM.out.2⟩⟩, by simp [intOf]; omega⟩
      · rw [HTK.out.1, ← HSET.out]
        exact HM.out.1.st.trans st3
      · have k := HM.out.1.kin
        exact k.put (by have := H1.out.hlw; omega)
      · intro q hq hnq
        rw [HTK.out.2] at hnq
        simp only [List.mem_append, List.mem_singleton, not_or] at hnq
        show Dv.latest yi.S (Dv.Tab.put yi.O ((x.start : Int) + (f.pg : Int)) f.l) ((x.start : Int) + (q : Int)) = _
        rw [latest_put, if_neg (by omega)]
        exact HM.out.1.pg q hq hnq.1
    · have q1 : ¬ (i : Int) < (n : Int) := by omega
      have hin : i = n := by omega
      have HALL : Hid (ds.take i = ds) := hidI (by rw [List.take_of_length_le (by have := HN.out; omega)])
      have hkn := HM.out.1.kin
      have hD : Dv.Dev wr x.y.d yi.bs yi.bo yi.nb 0 false yi.S yi.O := by rw [← hkn.d]; exact HX.out.lo.dev
      have b0 : wr.cell? ⟨x.pp, 0, none⟩ = some (.pointer (some ⟨x.y.d, 0, none⟩)) := by
        have h3 := HX.out.box.c0
        rw [show ({ x with y := yi, fs := cleanB ((ds.take i).map (·.b)) x.fs } : Po).pf.d = yi.d from rfl, hkn.d] at h3
        exact h3
      have HL2 := hidI HX.out.lo
      have FO := hkn
      go_wp2_with fail
      refine (Dv.sync_dev hD rfl).mono ?_
      rintro e w3 ⟨rfl, D3, f3⟩
      go_wp2_with fail
      go_ret
      have f3' := fr_dv f3
      have L2 := HL2.out
      have hne := L2.ne
      have LO : LoAt w3 { yi with S := Dv.over yi.S yi.O, O := Dv.Tab.none } :=
        { L2 with
          dev := by
            rw [← FO.d] at D3
            exact D3
          box := L2.box.kept f3' (by simp only [List.mem_cons, List.not_mem_nil, or_false, not_or]; rw [← FO.d]; exact hne)
          bsA := own0_kept L2.bsA f3' (by rw [← FO.d]; exact dev_types3 L2.dev)
          lsA := own0_kept L2.lsA f3' (by
            intro g hg cur t e et
            subst et
            simp only [List.mem_cons, List.not_mem_nil, or_false] at hg
            rcases hg with rfl | rfl | rfl
            · rw [← FO.d, L2.dev.cells] at e
              cases e
            · obtain ⟨D', ⟨es, clock, hb, _⟩, _⟩ := L2.dev.safe
              rw [hb] at e
              cases e
            · obtain ⟨D', ⟨es, clock, hb, _⟩, _⟩ := L2.dev.opn
              rw [hb] at e
              cases e) }
      have STL := Step.lower HX.out LO f3' (fun k hk => by
        have hk3 : k = x.y.d ∨ k = yi.bs ∨ k = yi.bo := by simpa using hk
        simp only [Lo.own, List.mem_append]
        left
        show k ∈ [yi.p, yi.d, yi.bs, yi.bo]
        rw [hkn.d]
        simp only [List.mem_cons, List.not_mem_nil, or_false]
        exact Or.inr hk3) (fun k hk => Or.inl hk) rfl rfl rfl rfl rfl rfl rfl (Nat.le_refl _) (fun q hq => latest_sync _ _ _) rfl
      have ST := hidI ((⟨H1.out, HRR.out.fr.mono (fun _ _ e => nomatch e), fun k hk => Or.inl hk⟩ : Step w w1 x x).trans (HM.out.1.st.trans STL))
      have hpl : ∀ q, q ∉ (ids x.fs).map (·.1) → q ∉ (ds.take i).map (·.pg) := fun q hq e => by
        obtain ⟨g', hg', he⟩ := List.mem_map.1 e
        rw [HALL.out] at hg'
        exact hq (he ▸ mem_ids (HRI.out.mem hg').1)
      have hcl : cleanB ((ds.take i).map (·.b)) x.fs = x.fs.map cleanF := by
        unfold cleanB
        refine List.map_congr_left fun f hf => ?_
        by_cases hd : 0 < f.fst
        · rw [if_pos]
          rw [HALL.out]
          exact List.mem_map.2 ⟨f, HRI.out.has hf hd, rfl⟩
        · have h0 := (HH.out.ok f hf).f0
          have e0 : f.fst = 0 := by omega
          have e1 : cleanF f = f := by unfold cleanF; rw [← e0]
          rw [e1, ite_self]
      have hal : ∀ q, q < x.pages → ∀ l, Val x q l → Val { x with y := { yi with S := Dv.over yi.S yi.O, O := Dv.Tab.none }, fs := cleanB ((ds.take i).map (·.b)) x.fs } q l := fun q hq l hv => by
        rcases hv with ⟨f, hf, h1, h2⟩ | ⟨hq', h2⟩
        · refine Or.inl ⟨cleanF f, ?_, h1, h2⟩
          show cleanF f ∈ cleanB _ x.fs
          rw [hcl]
          exact List.mem_map.2 ⟨f, hf, rfl⟩
        · refine Or.inr ⟨?_, ?_⟩
          · show q ∉ (ids (cleanB _ x.fs)).map (·.1)
            rw [ids_pg, cleanB_pg, ← ids_pg]
            exact hq'
          · show Dv.latest (Dv.over yi.S yi.O) Dv.Tab.none _ = l
            rw [latest_sync, ← h2]
            exact HM.out.1.pg q hq (hpl q hq')
      refine ⟨rfl, _, ST.out, ⟨⟨rfl, rfl, rfl, rfl, rfl, rfl, hal⟩, hcl, hkn.sync, ?_, ?_, ?_, rfl, ?_⟩⟩
      · intro f hf
        have hf2 : f ∈ cleanB ((ds.take i).map (·.b)) x.fs := hf
        rw [hcl] at hf2
        obtain ⟨g', _, rfl⟩ := List.mem_map.1 hf2
        rfl
      · show (cleanB _ x.fs).length = _
        unfold cleanB
        rw [List.length_map]
      · intro q hq l hv
        have hq2 := hal q hq l hv
        rcases hq2 with ⟨f, hf, h1, h2⟩ | ⟨_, h2⟩
        · have hf2 : f ∈ cleanB ((ds.take i).map (·.b)) x.fs := hf
          rw [hcl] at hf2
          obtain ⟨g', _, rfl⟩ := List.mem_map.1 hf2
          have h3 := (ST.out.at'.ok _ hf).cl rfl
          rw [← h2, h3, ← h1]
        · exact h2
      · intro f hf hd
        exact Int.le_trans (HP.out f (HRI.out.has hf hd)) (by have := HM.out.2; show (y'.P : Int) ≤ (yi.P : Int); omega)
end Go.Proofs.YtopaeomjndblkaaGreat

namespace Go.Proofs.YtopaeomjndblkaaGreat
open Go.RowKit Go.Maps

theorem RigAt.lt {w : World} {rg : Nat} {x : Po} (h : RigAt w rg x) : rg < w.heap.size := (Array.getElem?_eq_some_iff.1 h.box).1
theorem RigAt.step {w w' : World} {rg : Nat} {x x' : Po} (h : RigAt w rg x) (st : Step w w' x x') (hd : x'.y.d = x.y.d) (hp : x'.y.p = x.y.p) (hpp : x'.pp = x.pp) : RigAt w' rg x' := by
  have hlt := h.lt
  have h1 : rg ∉ x.own := fun e => h.ne (List.mem_cons_of_mem _ e)
  refine ⟨?_, st.at', ?_⟩
  · rw [hd, hp, hpp]
    exact h.box.kept st.fr h1
  · rw [hpp]
    intro e
    rcases List.mem_cons.1 e with e | e
    · exact h.ne (by rw [e]; exact List.mem_cons_self)
    · rcases st.ow rg e with h2 | h2
      · exact h1 h2
      · omega
theorem Step.quiet {w w' : World} {x : Po} (h : PoAt w x) (f : Fr [] w w') : Step w w' x x := ⟨h.kept f (by simp), f.mono (fun _ _ e => nomatch e), fun k hk => Or.inl hk⟩
theorem val_y {x : Po} {y' : Lo} (hpg : ∀ q, q < x.pages → pgD x.start y' q = pgD x.start x.y q) : Alike x { x with y := y' } :=
  ⟨rfl, rfl, rfl, rfl, rfl, rfl, fun q hq l hv => by
    rcases hv with h1 | ⟨h1, h2⟩
    · exact Or.inl h1
    · exact Or.inr ⟨h1, (hpg q hq).trans h2⟩⟩
theorem Step.grew {w w' : World} {x : Po} (h : PoAt w x) {y' : Lo} (ls : LStep w w' x.y y') (g : Grew x.y y') : Step w w' x { x with y := y' } ∧ Alike x { x with y := y' } := by
  have hpg : ∀ q, q < x.pages → pgD x.start y' q = pgD x.start x.y q := fun q hq => g.out _ (by have := h.dis; omega)
  exact ⟨Step.lower h ls.at' ls.fr (fun k hk => hk) ls.ow g.d g.p g.bs g.bo g.nb g.first g.count g.E hpg g.lw, val_y hpg⟩
/-- What is behind append1. -/
structure RApp (w w' : World) (rg : Nat) (x : Po) (fit : Bool) (lsn : Nat) (y' : Lo) : Prop where
  at' : RigAt w' rg { x with y := y' }
  st : Step w w' x { x with y := y' }
  al : Alike x { x with y := y' }
  gr : Grew x.y y'
  le : lsn ≤ y'.E
  ok : fit = true → 1 ≤ lsn
theorem rig_app1w {w : World} {rg : Nat} {x : Po} (h : RigAt w rg x) (blk off : Int) (l : List UInt8) (a1 : Option Addr) (n1 c1 : Nat) (ad : Option Addr) (c : Nat) (hb : BytesAt w ad l) (hbn : ad = none → l.length = 0 ∧ c = 0) (hbo : l = [] ∨ ∀ b o, ad = some ⟨b, o, none⟩ → b ∉ x.y.own) (hlen : l.length ≤ 2000) (hE : x.y.E + 1067 ≤ 400000) (hT0 : 1 ≤ x.y.T) (hc12 : x.y.count = 12) :
    Calls Tryz.prog 70 #[.pointer (some ⟨rg, 0, none⟩), .agg #[.int .i64 blk, .int .i64 off, .slice a1 n1 c1, .slice ad l.length c]] w fun e w' => ∃ lsn : Nat, e = .returned (.int .i64 (lsn : Int)) ∧ ∃ y', RApp w w' rg x (fitsB blk off l.length) lsn y' := by
  refine (app1_any h.po.lo h.box blk off l a1 n1 c1 ad c hb hbn hbo hlen hE hT0 hc12).mono ?_
  rintro e w' ⟨lsn, rfl, y', ls, gr, hle, hok⟩
  obtain ⟨st, al⟩ := Step.grew h.po ls gr
  exact ⟨lsn, rfl, y', ⟨h.step st gr.d gr.p rfl, st, al, gr, hle, hok⟩⟩
theorem rig_app1 {w : World} {rg : Nat} {x : Po} (h : RigAt w rg x) (blk off : Int) (l : List UInt8) (a1 : Option Addr) (n1 c1 : Nat) (ad : Option Addr) (c : Nat) (hb : BytesAt w ad l) (hbn : ad = none → l.length = 0 ∧ c = 0) (hbo : ∀ b o, ad = some ⟨b, o, none⟩ → b ∉ x.y.own) (hlen : l.length ≤ 2000) (hE : x.y.E + 1067 ≤ 400000) (hT0 : 1 ≤ x.y.T) (hc12 : x.y.count = 12) :
    Calls Tryz.prog 70 #[.pointer (some ⟨rg, 0, none⟩), .agg #[.int .i64 blk, .int .i64 off, .slice a1 n1 c1, .slice ad l.length c]] w fun e w' => ∃ lsn : Nat, e = .returned (.int .i64 (lsn : Int)) ∧ ∃ y', RApp w w' rg x (fitsB blk off l.length) lsn y' :=
  rig_app1w h blk off l a1 n1 c1 ad c hb hbn (Or.inr hbo) hlen hE hT0 hc12
/-- What a pool is behind Change. -/
def Chg (x x'' : Po) (page off : Nat) (l : List UInt8) (lsn : Int) : Prop := ∃ (f : Fm) (x' : Po) (j : Nat), Fnd x x' page f ∧ x'.fs[j]? = some f ∧ x'' = { x' with fs := x'.fs.set j (f.changed off l lsn) }
theorem Chg.val {x x'' : Po} {page off : Nat} {l : List UInt8} {lsn : Int} (h : Chg x x'' page off l lsn) (hn : ((ids x.fs).map (·.1)).Nodup) (hn2 : ((ids x''.fs).map (·.1)).Nodup) :
    x''.start = x.start ∧ x''.pages = x.pages ∧ x''.most = x.most ∧ x''.pp = x.pp ∧ x''.mp = x.mp ∧ x''.rp = x.rp ∧ (∀ q, q < x.pages → q ≠ page → ∀ m, Val x q m → Val x'' q m) ∧ (∀ m, Val x page m → Val x'' page (over m off l)) := by
  obtain ⟨f, x', j, hf, hj, rfl⟩ := h
  obtain ⟨al, hv, hpg⟩ := hf.alike hn
  have hids : (ids (x'.fs.set j (f.changed off l lsn))).map (·.1) = (ids x'.fs).map (·.1) := by rw [ids_set (f' := f.changed off l lsn) hj rfl rfl]
  have hn' : ((ids x'.fs).map (·.1)).Nodup := by rw [← hids]; exact hn2
  refine ⟨al.1, al.2.1, al.2.2.1, al.2.2.2.1, al.2.2.2.2.1, al.2.2.2.2.2.1, fun q hq hne m hm => ?_, fun m hm => ?_⟩
  · rcases al.2.2.2.2.2.2 q hq m hm with ⟨g, hg, h1, h2⟩ | ⟨h1, h2⟩
    · obtain ⟨i, hi⟩ := List.mem_iff_getElem?.1 hg
      have hij : i ≠ j := fun e => by
        subst e
        rw [hj] at hi
        cases hi
        exact hne (h1.symm.trans hpg)
      exact Or.inl ⟨g, List.mem_of_getElem? (i := i) (by rw [List.getElem?_set_ne (fun e => hij e.symm)]; exact hi), h1, h2⟩
    · exact Or.inr ⟨by show q ∉ (ids (x'.fs.set j _)).map (·.1); rw [hids]; exact h1, h2⟩
  · have e1 := Val.uniq hn hm hv
    refine Or.inl ⟨f.changed off l lsn, List.mem_of_getElem? (i := j) (List.getElem?_set_self (List.getElem?_eq_some_iff.1 hj).1), hpg, ?_⟩
    show over f.l off l = over m off l
    rw [e1]
theorem Fnd.hd0 {x x' : Po} {page : Nat} {f : Fm} (h : Fnd x x' page f) (h0 : ∀ g ∈ x.fs, g.hd = 0) : (∀ g ∈ x'.fs, g.hd = 0) ∧ f.hd = 0 := by
  rcases h with ⟨j, f0, hj, rfl, rfl, rfl⟩ | ⟨hno, hm, hf⟩
  · have h1 := h0 _ (List.mem_of_getElem? hj)
    refine ⟨fun g hg => ?_, h1⟩
    rcases mem_set hj hg with rfl | ⟨i, _, hgi⟩
    · exact h1
    · exact h0 g (List.mem_of_getElem? hgi)
  · refine ⟨?_, by rw [hf]; rfl⟩
    rcases hm with ⟨_, a, c, rfl⟩ | ⟨_, y', k, j, f1, _, _, hf1, _, rfl, _⟩
    · intro g hg
      rcases List.mem_append.1 hg with h1 | h1
      · exact h0 g h1
      · rw [List.mem_singleton.1 h1]
        rfl
    · intro g hg
      have hlt : j < (turnS k (x.fs.set j { f1 with fst := 0 }, x.hand)).1.length := by rw [turnS_len, List.length_set]; exact (List.getElem?_eq_some_iff.1 hf1).1
      rcases mem_set (List.getElem?_eq_getElem hlt) hg with rfl | ⟨i, hi, hgi⟩
      · rfl
      · obtain ⟨g', h1, h2⟩ := turnS_at k (x.fs.set j { f1 with fst := 0 }, x.hand) i g hgi
        have h3 : g'.hd = 0 := by
          rcases mem_set hf1 (List.mem_of_getElem? h1) with rfl | ⟨i', _, hgi'⟩
          · exact h0 f1 (List.mem_of_getElem? hf1)
          · exact h0 g' (List.mem_of_getElem? hgi')
        rcases h2 with rfl | rfl
        · exact h3
        · exact h3
theorem Chg.hd0 {x x'' : Po} {page off : Nat} {l : List UInt8} {lsn : Int} (h : Chg x x'' page off l lsn) (h0 : ∀ g ∈ x.fs, g.hd = 0) : ∀ g ∈ x''.fs, g.hd = 0 := by
  obtain ⟨f, x', j, hf, hj, rfl⟩ := h
  obtain ⟨h1, h2⟩ := hf.hd0 h0
  intro g hg
  rcases mem_set hj hg with rfl | ⟨i, _, hgi⟩
  · exact h2
  · exact h1 g (List.mem_of_getElem? hgi)
theorem Chg.kin {x x'' : Po} {page off : Nat} {l : List UInt8} {lsn : Int} (h : Chg x x'' page off l lsn) : Kin x.y x''.y := by
  obtain ⟨f, x', j, hf, hj, rfl⟩ := h
  exact hf.kin
theorem Chg.pgs {x x'' : Po} {page off : Nat} {l : List UInt8} {lsn : Int} (h : Chg x x'' page off l lsn) : ∃ f x', Fnd x x' page f ∧ x''.fs.length = x'.fs.length ∧ (ids x''.fs).map (·.1) = (ids x'.fs).map (·.1) := by
  obtain ⟨f, x', j, hf, hj, rfl⟩ := h
  exact ⟨f, x', hf, List.length_set, by rw [show ({ x' with fs := x'.fs.set j (f.changed off l lsn) } : Po).fs = x'.fs.set j (f.changed off l lsn) from rfl, ids_set (f' := f.changed off l lsn) hj rfl rfl]⟩
/-- The pages that are in frames behind a page was asked for. -/
theorem Fnd.pgs {x x' : Po} {page : Nat} {f : Fm} (h : Fnd x x' page f) : ∀ q ∈ (ids x'.fs).map (·.1), q ∈ (ids x.fs).map (·.1) ∨ q = page := by
  rcases h with ⟨j, f0, hj, rfl, rfl, rfl⟩ | ⟨hno, hm, hf⟩
  · intro q hq
    left
    rw [show (x.asked j f0).fs = x.fs.set j { f0 with ask := true } from rfl, ids_set (f' := { f0 with ask := true }) hj rfl rfl] at hq
    exact hq
  · rcases hm with ⟨_, a, c, rfl⟩ | ⟨_, y', k, j, f1, _, _, hf1, _, rfl, _⟩
    · intro q hq
      have h1 : q ∈ (ids (x.fs ++ [newF f.b page (pgD x.start x.y page)])).map (·.1) := hq
      rw [ids_pg, List.map_append, List.mem_append, ← ids_pg] at h1
      rcases h1 with h1 | h1
      · exact Or.inl h1
      · simp [newF] at h1
        exact Or.inr h1
    · intro q hq
      have h1 : q ∈ (ids ((turnS k (x.fs.set j { f1 with fst := 0 }, x.hand)).1.set j (newF f.b page (pgD x.start x.y page)))).map (·.1) := hq
      rw [ids_pg, List.map_set, ← ids_pg, turnS_ids] at h1
      rcases List.mem_or_eq_of_mem_set h1 with h2 | h2
      · left
        rw [show ids (x.fs.set j { f1 with fst := 0 }) = ids x.fs from ids_set (f' := { f1 with fst := 0 }) hf1 rfl rfl] at h2
        exact h2
      · exact Or.inr h2
theorem Busy.no {x : Po} {page : Nat} (h : Busy x page) (h0 : ∀ g ∈ x.fs, g.hd = 0) (hm : 8 ≤ x.most) : False := by
  obtain ⟨h1, _, h3⟩ := h
  obtain ⟨f, hf⟩ : ∃ f, x.fs[0]? = some f := ⟨_, List.getElem?_eq_getElem (by omega)⟩
  exact h3 f (List.mem_of_getElem? hf) (h0 f (List.mem_of_getElem? hf))
theorem rig_change {w : World} {rg : Nat} {x : Po} (h : RigAt w rg x) {page : Nat} (hp : page < x.pages) (off : Nat) (a1 : Option Addr) (n1 c1 : Nat) (ad : Option Addr) (c : Nat) (l : List UInt8) (hl : 0 < l.length) (hfit : off + l.length ≤ 512) (hb : BytesAt w ad l) (hbo : ∀ b o, ad = some ⟨b, o, none⟩ → b ∉ x.own) (lsn : Int) (hl1 : 1 ≤ lsn) (hl2 : lsn ≤ (x.y.E : Int)) :
    Calls Tryz.prog 69 #[.pointer (some ⟨x.pp, 0, none⟩), .agg #[.int .i64 (page : Int), .int .i64 (off : Int), .slice a1 n1 c1, .slice ad l.length c], .int .i64 lsn] w fun e w' => (e = .returned (.int .i64 9) ∧ Busy x page ∧ Fr [] w w') ∨ (e = .returned (.int .i64 0) ∧ ∃ x'', RigAt w' rg x'' ∧ Step w w' x x'' ∧ Chg x x'' page off l lsn) := by
  refine (change_any h.po hp off a1 n1 c1 ad c l hl hfit hb hbo lsn hl1 hl2).mono ?_
  rintro e w' (⟨h1, h2, h3⟩ | ⟨f, x', j, rfl, st, hf, hj⟩)
  · exact Or.inl ⟨h1, h2, h3⟩
  · have al := (hf.alike h.po.nod).1
    have k := hf.kin
    exact Or.inr ⟨rfl, _, h.step st k.d k.p al.2.2.2.1, st, f, x', j, hf, hj, rfl⟩
/-- What is behind a Read of a page. -/
structure RRead (w w' : World) (rg : Nat) (x x' : Po) (page g : Nat) (f : Fm) : Prop where
  at' : RigAt w' rg x'
  st : Step w w' x x'
  fnd : Fnd x x' page f
  row : Blk w' g f.l
  new : w.heap.size ≤ g
  ne : g ∉ x'.own
theorem rig_read {w : World} {rg : Nat} {x : Po} (h : RigAt w rg x) {page : Nat} (hp : page < x.pages) :
    Calls Tryz.prog 71 #[.pointer (some ⟨x.pp, 0, none⟩), .int .i64 (page : Int)] w fun e w' => (e = .returned (.tuple #[.slice none 0 0, .int .i64 9]) ∧ Busy x page ∧ Fr [] w w') ∨ ∃ g : Nat, e = .returned (.tuple #[.slice (some ⟨g, 0, none⟩) 512 512, .int .i64 0]) ∧ ∃ f x', RRead w w' rg x x' page g f := by
  refine (read_any h.po hp).mono ?_
  rintro e w' (⟨h1, h2, h3⟩ | ⟨f, x', j, g, rfl, st, hf, hj, hb, hg, hno⟩)
  · exact Or.inl ⟨h1, h2, h3⟩
  · have al := (hf.alike h.po.nod).1
    have k := hf.kin
    exact Or.inr ⟨g, rfl, f, x', ⟨h.step st k.d k.p al.2.2.2.1, st, hf, hb, hg, hno⟩⟩
end Go.Proofs.YtopaeomjndblkaaGreat

namespace Go.Proofs.YtopaeomjndblkaaGreat
open Go.RowKit Go.Maps

set_option maxHeartbeats 1000000 in
theorem hold_any {w : World} {x : Po} (h : PoAt w x) {page : Nat} (hp : page < x.pages) (hm : ∀ f ∈ x.fs, f.hd < 1000000) :
    Calls Tryz.prog 81 #[.pointer (some ⟨x.pp, 0, none⟩), .int .i64 (page : Int)] w fun e w' => (e = .returned (.int .i64 9) ∧ Busy x page ∧ Fr [] w w') ∨ (e = .returned (.int .i64 0) ∧ ∃ (f : Fm) (x' : Po) (j : Nat), Step w w' x { x' with fs := x'.fs.set j { f with hd := f.hd + 1 } } ∧ Fnd x x' page f ∧ x'.fs[j]? = some f) := by
  have HH := hidI h
  have HM := hidI hm
  clear h hm
  go_enter Tryz.func81, Tryz.ntmps81
  go_wp2_with fail
  refine (reach_any HH.out hp).mono ?_
  rintro e w1 (⟨rfl, h1, h2⟩ | ⟨f, x', j, rfl, st, hf, hj⟩)
  · go_wp2_with fail
    go_ret
    exact Or.inl ⟨rfl, h1, h2⟩
  · have hmem := List.mem_of_getElem? hj
    have hok := st.at'.ok f hmem
    have hlt : f.hd < 1000000 := by
      rcases hf with ⟨j0, f0, hj0, _, rfl, _⟩ | ⟨_, _, hf⟩
      · exact HM.out f0 (List.mem_of_getElem? hj0)
      · rw [hf]
        show (0 : Int) < 1000000
        omega
    have FA := st.at'.rn.frames f hmem
    have c2 := FA.c2
    have z2 := FA.fz 513
    have h0 := hok.h0
    have hw : IntKind.i64.wrap (f.hd + 1) = f.hd + 1 := wrapI _ (by omega) (by omega)
    have F2 := hidI (FA.s2 (f.hd + 1))
    have ST := hidI st
    have HOK := hidI hok
    clear FA st hok
    go_wp2_with fail
    go_ret
    have hfo : FOk x'.start x'.pages x'.y { f with hd := f.hd + 1 } := by
      have k := HOK.out
      exact ⟨k.pg, by show 0 ≤ f.hd + 1; omega, by show f.hd + 1 ≤ 1000000; omega, k.f0, k.l0, k.l1, k.cl⟩
    exact Or.inr ⟨rfl, f, x', j, ST.out.trans (Step.asked ST.out.at' hj rfl rfl hfo F2.out (fr_set _ _ _ _)), hf, hj⟩
theorem hold_out {w : World} {pp : Nat} {x : Pf} (h : PBox' w pp x) {k : Int} (hk : k < 0 ∨ (x.pages : Int) ≤ k) :
    Calls Tryz.prog 81 #[.pointer (some ⟨pp, 0, none⟩), .int .i64 k] w fun e w' => e = .returned (.int .i64 6) ∧ w' = w := by
  go_enter Tryz.func81, Tryz.ntmps81
  go_wp2_with (go_at_call 171; refine (reach_out h hk).mono ?_; rintro e wz ⟨rfl, hz⟩; rw [hz]; clear hz)
  go_ret
  exact ⟨rfl, rfl⟩
theorem read_out {w : World} {pp : Nat} {x : Pf} (h : PBox' w pp x) {k : Int} (hk : k < 0 ∨ (x.pages : Int) ≤ k) :
    Calls Tryz.prog 71 #[.pointer (some ⟨pp, 0, none⟩), .int .i64 k] w fun e w' => e = .returned (.tuple #[.slice none 0 0, .int .i64 6]) ∧ w' = w := by
  go_enter Tryz.func71, Tryz.ntmps71
  go_wp2_with (go_at_call 171; refine (reach_out h hk).mono ?_; rintro e wz ⟨rfl, hz⟩; rw [hz]; clear hz)
  go_ret2
  exact ⟨rfl, rfl⟩
theorem leave_out {w : World} {pp : Nat} {x : Pf} (h : PBox' w pp x) {k : Int} (hk : k < 0 ∨ (x.pages : Int) ≤ k) :
    Calls Tryz.prog 82 #[.pointer (some ⟨pp, 0, none⟩), .int .i64 k] w fun e w' => e = .returned (.bool false) ∧ w' = w := by
  have hr : hasR x k = 6 := by
    unfold hasR
    rw [if_pos hk]
  go_enter Tryz.func82, Tryz.ntmps82
  go_wp2_with (go_at_call 167; refine (has_any h _).mono ?_; rw [hr]; rintro e wz ⟨rfl, hz⟩; rw [hz]; clear hz)
  go_ret
  exact ⟨rfl, rfl⟩
set_option maxHeartbeats 1000000 in
/-- Leave of a page that is in no frame, or is not held. -/
theorem leave_not {w : World} {x : Po} (h : PoAt w x) {page : Nat} (hp : page < x.pages) (hno : ∀ f ∈ x.fs, f.pg = page → f.hd = 0) :
    Calls Tryz.prog 82 #[.pointer (some ⟨x.pp, 0, none⟩), .int .i64 (page : Int)] w fun e w' => e = .returned (.bool false) ∧ Fr [] w w' := by
  obtain ⟨S, hS, hT⟩ := h.mp
  have n2 := h.lo.dev.n2
  have area := h.area
  have hwf : (Lit.int .i64 (page : Int)).wf = true := WalkArith.wf_i64 (by omega)
  have c6 := h.box.c6
  have HH := hidI h
  have HS := hidI hS
  have hr : hasR x.pf (page : Int) = 0 := by
    unfold hasR
    rw [if_neg (by show ¬ ((page : Int) < 0 ∨ (x.pages : Int) ≤ (page : Int)); omega)]
  cases e : S (page : Int) with
  | none =>
    clear h hS
    go_enter Tryz.func82, Tryz.ntmps82
    go_wp2_with (first
      | (go_at_call 167; refine (has_any HH.out.box _).mono ?_; rw [hr]; rintro e wz ⟨rfl, hz⟩; rw [hz]; clear hz)
      | (refine wp_pLook rfl _ _ rfl x.mp S (page : Int) hwf rfl rfl HS.out ?_; rw [e]; simp only [ptV, Option.map_none, Option.isSome_none]))
    go_ret
    exact ⟨rfl, Fr.refl _ _⟩
  | some b =>
    obtain ⟨q, hq, h1, h2⟩ := hT.only _ _ e
    obtain ⟨f, hf, rfl⟩ := List.mem_map.1 hq
    have hfp : f.pg = page := by have h3 : ((f.pg : Nat) : Int) = (page : Int) := h1; omega
    have hfb : f.b = b := h2
    subst hfb
    have FA := h.rn.frames f hf
    have c2 := FA.c2
    rw [hno f hf hfp] at c2
    clear h hS FA
    go_enter Tryz.func82, Tryz.ntmps82
    go_wp2_with (first
      | (go_at_call 167; refine (has_any HH.out.box _).mono ?_; rw [hr]; rintro e wz ⟨rfl, hz⟩; rw [hz]; clear hz)
      | (refine wp_pLook rfl _ _ rfl x.mp S (page : Int) hwf rfl rfl HS.out ?_; rw [e]; simp only [ptV, Option.map_some, Option.isSome_some]))
    go_ret
    exact ⟨rfl, Fr.refl _ _⟩
set_option maxHeartbeats 1000000 in
theorem leave_yes {w : World} {x : Po} (h : PoAt w x) {j : Nat} {f : Fm} (hj : x.fs[j]? = some f) (hd : f.hd ≠ 0) :
    Calls Tryz.prog 82 #[.pointer (some ⟨x.pp, 0, none⟩), .int .i64 (f.pg : Int)] w fun e w' => e = .returned (.bool true) ∧ Step w w' x { x with fs := x.fs.set j { f with hd := f.hd - 1 } } := by
  obtain ⟨S, hS, hT⟩ := h.mp
  have hm := List.mem_of_getElem? hj
  have hok := h.ok f hm
  have n2 := h.lo.dev.n2
  have area := h.area
  have hpg := hok.pg
  have hwf : (Lit.int .i64 (f.pg : Int)).wf = true := WalkArith.wf_i64 (by omega)
  have hSf : S (f.pg : Int) = some f.b := hT.has (f.pg, f.b) (List.mem_map.2 ⟨f, hm, rfl⟩)
  have c6 := h.box.c6
  have HH := hidI h
  have HS := hidI hS
  have hr : hasR x.pf (f.pg : Int) = 0 := by
    unfold hasR
    rw [if_neg (by show ¬ ((f.pg : Int) < 0 ∨ (x.pages : Int) ≤ (f.pg : Int)); omega)]
  have h0 := hok.h0
  have h1 := hok.h1
  have q1 : (f.hd == 0) = false := beq_eq_false_iff_ne.2 hd
  have hw : IntKind.i64.wrap (f.hd - 1) = f.hd - 1 := wrapI _ (by omega) (by omega)
  have FA := h.rn.frames f hm
  have c2 := FA.c2
  have z2 := FA.fz 513
  have F2 := hidI (FA.s2 (f.hd - 1))
  have HOK := hidI hok
  have HD := hidI hd
  clear h hS FA hok hd
  go_enter Tryz.func82, Tryz.ntmps82
  go_wp2_with (first
    | (go_at_call 167; refine (has_any HH.out.box _).mono ?_; rw [hr]; rintro e wz ⟨rfl, hz⟩; rw [hz]; clear hz)
    | (refine wp_pLook rfl _ _ rfl x.mp S (f.pg : Int) hwf rfl rfl HS.out ?_; rw [hSf]; simp only [ptV, Option.map_some, Option.isSome_some]))
  go_ret
  have hfo : FOk x.start x.pages x.y { f with hd := f.hd - 1 } := by
    have k := HOK.out
    have := HD.out
    exact ⟨k.pg, by show 0 ≤ f.hd - 1; omega, by show f.hd - 1 ≤ 1000000; omega, k.f0, k.l0, k.l1, k.cl⟩
  exact ⟨rfl, Step.asked HH.out hj rfl rfl hfo F2.out (fr_set _ _ _ _)⟩
end Go.Proofs.YtopaeomjndblkaaGreat

namespace Go.Proofs.YtopaeomjndblkaaGreat
open Go.RowKit Go.Maps

def dtV (ds : List Fm) : List Value := ds.flatMap fun f => [.int .i64 (f.pg : Int), .int .i64 f.fst]
theorem dtV_len (ds : List Fm) : (dtV ds).length = ds.length * 2 := by
  induction ds with
  | nil => rfl
  | cons f l ih => simp [dtV] at ih ⊢; omega
theorem dtV_app (ds : List Fm) (f : Fm) : dtV (ds ++ [f]) = dtV ds ++ [.int .i64 (f.pg : Int), .int .i64 f.fst] := by simp [dtV]
theorem infoDt : (Tryz.prog.info? 50).map (fun i => (i.zero, i.size, i.bytes)) = some (some (.agg #[.int .i64 0, .int .i64 0]), 2, 16) := by kernel_rfl
theorem infoDt' : ∃ i, Tryz.prog.info? 50 = some i ∧ i.zero = some (.agg #[.int .i64 0, .int .i64 0]) ∧ i.size = 2 ∧ i.bytes = 16 := by
  have h := infoDt
  cases hi : Tryz.prog.info? 50 with
  | none => rw [hi] at h; cases h
  | some i =>
    rw [hi] at h
    simp at h
    exact ⟨i, rfl, h.1, h.2.1, h.2.2⟩
section
variable {ops : Array Oper} {rest : List Oper} {o : Oper} {a : Act} {w : World} {Q : Exit → Act → World → Prop}
/-- append of one of them, as a step of a region that draws its order. -/
theorem step_appDt {K : Act → World → Prop} {X : Prop} (hgd : o.guard = none) (s x : Operand) (ho : o.op = .call { callee := .builtin .append, args := #[s, x], argTypes := #[47, 47] }) (ad : Option Addr) (n c : Nat) (ds : List Fm) (b : Nat) (f : Fm) (hs : a.eval s = .slice ad n c) (hx : a.eval x = .slice (some ⟨b, 0, none⟩) 1 1)
    (hown : w.ownsRow 0 50 2 (.slice ad n c) n (dtV ds)) (hb : w.heap[b]? = some (.cells #[.int .i64 (f.pg : Int), .int .i64 f.fst] 50)) (hm : n + 1 ≤ 1000000)
    (h : ∀ g c' w', w'.ownsRow 0 50 2 (.slice (some ⟨g, 0, none⟩) (n + 1) c') (n + 1) (dtV (ds ++ [f])) → Fr (Value.ownBlock (.slice ad n c)).toList w w' → NewOr ad n c g w.heap.size → K (a.put o.dst (.slice (some ⟨g, 0, none⟩) (n + 1) c')) w') :
    if Region.wanted o (yielded ops a.tmps) = true then Oper.wp Tryz.prog o a w K Q else X := by
  have hw : Region.wanted o (yielded ops a.tmps) = true := by simp [Region.wanted, hgd]
  rw [if_pos hw]
  obtain ⟨i, hi, hz, hsz, hbb⟩ := infoDt'
  obtain ⟨v', w', hrun, h2, h3, h4, h5⟩ := run_append_own_at (P := Tryz.prog) w 0 47 o.type 50 i (.agg #[.int .i64 0, .int .i64 0]) 2 16 Tryz.underlying47 hi hz hsz hbb rfl (by omega) _ n (dtV ds) hown ⟨b, 0, none⟩ 1 1 [.int .i64 (f.pg : Int), .int .i64 f.fst] (by simp)
    (by
      intro j x hx
      rw [Addr.add_mid]
      match j, hx with
      | 0, hx => simp at hx; subst hx; exact cell_of_row w b 0 _ _ _ hb
      | 1, hx => simp at hx; subst hx; exact cell_of_row w b 1 _ _ _ hb
      | j + 2, hx => simp at hx) (by intro x hx; simp at hx; rcases hx with rfl | rfl <;> rfl) (by unfold maxLen; omega) (by omega) (Nat.zero_le _)
  rcases h2.2 with ⟨e, hn0⟩ | ⟨g, c', cur, e, r⟩
  · omega
  · subst e
    have h2' : w'.ownsRow 0 50 2 (.slice (some ⟨g, 0, none⟩) (n + 1) c') (n + 1) (dtV (ds ++ [f])) := by
      rw [dtV_app]
      exact h2
    unfold Oper.wp
    simp [execOp, ho, resolve, invoke, builtin, hs, hx, hrun, Result.andThen]
    exact h _ _ _ h2' ((Fr.refl _ _).grown h3 (fun j e _ => by simp [e])) (new_of h5)
end
/-- What Dirty tells: a new row of pages and lsns. -/
structure DRow (w0 w : World) (ad : Option Addr) (n c : Nat) (ds : List Fm) : Prop where
  own : w.ownsRow 0 50 2 (.slice ad n c) n (dtV ds)
  new : ∀ g ∈ (Value.ownBlock (.slice ad n c)).toList, w0.heap.size ≤ g
  fr : Fr [] w0 w
  len : ds.length = n
theorem DRow.nil {w0 w : World} (f : Fr [] w0 w) : DRow w0 w none 0 0 [] := ⟨⟨by simp [dtV], Or.inl ⟨rfl, rfl⟩⟩, fun g hg => (nomatch hg), f, rfl⟩
def PDirty (w w' : World) (x : Po) (ad : Option Addr) (n c : Nat) : Prop := ∃ ds, DRow w w' ad n c ds ∧ Rising x.fs ds ∧ n ≤ 1024
set_option maxHeartbeats 2000000 in
set_option maxRecDepth 100000 in
theorem pdirty_any {w : World} {x : Po} (h : PoAt w x) : Calls Tryz.prog 21 #[.pointer (some ⟨x.pp, 0, none⟩)] w fun e w' => ∃ (ad : Option Addr) (n c : Nat), e = .returned (.slice ad n c) ∧ PDirty w w' x ad n c := by
  have HH := hidI h
  have hm1 := h.m1
  have hhl := h.hl
  clear h
  go_enter Tryz.func21, Tryz.ntmps21
  go_wp2_with (go_at_call 75; refine (pmade_yes HH.out.box).mono ?_; rintro e wz ⟨rfl, hz⟩; rw [hz]; clear hz)
  refine (rising_any HH.out).mono ?_
  rintro e w1 ⟨ad, n, c, ds, rfl, hn, hnc, RR, RI⟩
  have HRR := hidI RR
  have HRI := hidI RI
  have HN := hidI hn
  have hle : n ≤ 1024 := by
    have h1 : ds.length ≤ x.fs.length := by
      rw [RI.perm.length_eq]
      exact List.length_filter_le _ _
    omega
  clear RR RI hn
  go_wp2_with fail
  go_loopw [3, 5, 12] (fun s3 s5 s12 wr => ∃ (i : Nat) (ad2 : Option Addr) (c2 : Nat), i ≤ n ∧ s3 = .slice ad2 i c2 ∧ s5 = s5 ∧ s12 = .int .i64 (i : Int) ∧ Hid (DRow w1 wr ad2 i c2 (ds.take i))) (fun _ _ s12 _ => n - (intOf s12).toNat)
  case atStart => exact ⟨0, none, 0, by omega, rfl, rfl, rfl, hidI (DRow.nil (Fr.refl _ _))⟩
  case round =>
    obtain ⟨i, ad2, c2, hi, rfl, -, rfl, R⟩ := hrel
    by_cases hlt : i < n
    · have q1 : (i : Int) < (n : Int) := by omega
      have q0 : (0 : Int) ≤ (i : Int) := by omega
      have hwi : IntKind.i64.wrap ((i : Int) + 1) = (i : Int) + 1 := wrapI _ (by omega) (by omega)
      obtain ⟨f, hf⟩ : ∃ f, ds[i]? = some f := ⟨_, List.getElem?_eq_getElem (by have := HN.out; omega)⟩
      obtain ⟨g, rfl, cj0⟩ := HRR.out.cell i f hf
      have cj : wr.cell? ⟨g, i, none⟩ = some (.pointer (some ⟨f.b, 0, none⟩)) := (World.cell?_of_block (R.out.fr.block g (block_lt_of_cell cj0) (by simp))).trans cj0
      have FA := (HH.out.kept (HRR.out.fr.trans R.out.fr) (by simp)).rn.frames f (HRI.out.mem (List.mem_of_getElem? hf)).1
      have f0 := FA.c0
      have f4 := FA.c4
      have HTK : Hid (ds.take (i + 1) = ds.take i ++ [f]) := hidI (by rw [List.take_add_one, hf]; rfl)
      clear cj0 FA
      go_wp2_with fail
      have FD : Fr [] wr (wr.drew.alloc (.cells #[.int .i64 (f.pg : Int), .int .i64 f.fst] 50)) := (Fr.refl [] wr).drew.alloc _
      have HOW : Hid ((wr.drew.alloc (.cells #[.int .i64 (f.pg : Int), .int .i64 f.fst] 50)).ownsRow 0 50 2 (.slice ad2 i c2) i (dtV (ds.take i))) := hidI (by
        obtain ⟨h1, h2⟩ := R.out.own
        refine ⟨h1, ?_⟩
        rcases h2 with hn' | ⟨g', cap', cur, e, hb, hg, r⟩
        · exact Or.inl hn'
        · exact Or.inr ⟨g', cap', cur, e, hb, FD.same (by simp) hg, r⟩)
      go_region_law ((refine step_appDt (by rfl) _ _ (by rfl) ad2 i c2 (ds.take i) wr.heap.size f rfl rfl HOW.out (heap_alloc_new wr.drew _) (by omega) ?_; intro g5 c5 w5 o5 f5 n5))
      all_goals
        go_wp2_with fail
        refine ⟨⟨i + 1, some ⟨g5, 0, none⟩, c5, by omega, by first | rfl | trivial, by first | rfl | trivial, by go_num, hidI ⟨?_, ?_, ?_, ?_⟩⟩, by simp [intOf]; omega⟩
        · rw [HTK.out]
          exact o5
        · intro k hk
          simp [Value.ownBlock] at hk
          subst hk
          rcases n5 with h1 | h1
          · exact R.out.new _ (by rw [h1]; simp)
          · have := R.out.fr.size
            simp at h1
            omega
        · refine (R.out.fr.trans FD).then f5 (fun k hk hm => ?_)
          have := R.out.new k hm
          omega
        · rw [HTK.out, List.length_append, R.out.len]
          rfl
    · have q1 : ¬ (i : Int) < (n : Int) := by omega
      have hin : i = n := by omega
      subst hin
      go_wp2_with fail
      go_ret
      have hd := R.out
      rw [List.take_of_length_le (by have := HN.out; omega)] at hd
      exact ⟨_, _, _, rfl, ds, ⟨hd.own, fun g hg => Nat.le_trans HRR.out.fr.size (hd.new g hg), HRR.out.fr.trans hd.fr, hd.len⟩, HRI.out, hle⟩
end Go.Proofs.YtopaeomjndblkaaGreat

