/-
  The pool's other calls: Change, Flush where no page is dirty, Frames, Pages, New; and all of them where there is no pool.
-/
import Derived.Test.YtopaeomjndblkaaGreatY24Z
namespace Go.Proofs.YtopaeomjndblkaaGreat
open Go.RowKit Go.Maps

theorem Mid.put {w w' : World} {x : Po} {S S' : PTab} (h : Mid w x S) (hm : pMap w' x.mp S') (f : Fr [x.mp] w w') : Mid w' x S' := by
  have hn := h.mp.notcells
  have d3 : x.mp ∉ x.y.own := by
    intro hk
    simp only [Lo.own, List.mem_append, List.mem_cons, List.not_mem_nil, or_false] at hk
    rcases hk with (e | e | e | e) | hk | hk
    · have h1 := h.lo.box
      unfold LBox at h1
      rw [← e] at h1
      exact hn _ _ h1
    · have h1 := h.lo.dev.cells
      rw [← e] at h1
      exact hn _ _ h1
    · exact h.mne.1 e
    · exact h.mne.2 e
    · obtain ⟨cur', hc⟩ := own0_type h.lo.bsA _ hk
      exact hn _ _ hc
    · obtain ⟨cur', hc⟩ := own0_type h.lo.lsA _ hk
      exact hn _ _ hc
  refine { h with lo := h.lo.kept f (fun i hi e => by simp at e; subst e; exact d3 hi), box := h.box.kept f (fun e => by simp at e; have h1 := h.box; unfold PBox' at h1; rw [e] at h1; exact hn _ _ h1), rn := h.rn.kept f (fun i hi e => ?_), mp := hm }
  simp at e
  subst e
  obtain ⟨cur, t, hc, _⟩ := h.rn.types _ hi
  exact hn _ _ hc
/-- What a pool is behind reading a page into a frame at block g. -/
def Missed (x x' : Po) (page g : Nat) : Prop :=
  (x.fs.length < x.most ∧ ∃ a c, x' = x.added a c (newF g page (pgD x.start x.y page))) ∨
  (x.fs.length = x.most ∧ ∃ y' k j f, seekTo x.fs x.hand k true ∧ (x.hand + k) % x.fs.length = j ∧ x.fs[j]? = some f ∧ f.hd = 0 ∧ x' = x.swapped y' k j f (newF g page (pgD x.start x.y page)) ∧ Kin x.y y' ∧ (∀ q, q < x.pages → q ≠ f.pg → pgD x.start y' q = pgD x.start x.y q) ∧ pgD x.start y' f.pg = f.l ∧ (0 < f.fst → f.lst ≤ (y'.P : Int)))
theorem seek_held {fs : List Fm} {hand k : Nat} (hh : hand < fs.length) (h : seekTo fs hand k false) : ∀ f ∈ fs, f.hd ≠ 0 := by
  intro f hf h0
  obtain ⟨i, hi⟩ := List.mem_iff_getElem?.1 hf
  have hil := (List.getElem?_eq_some_iff.1 hi).1
  rcases h with ⟨e, _⟩ | ⟨_, _, h⟩
  · cases e
  · have h1 := h (fs.length + (i + fs.length - hand) % fs.length) (by have := Nat.mod_lt (i + fs.length - hand) (show 0 < fs.length by omega); omega) f (by
      have e1 : hand + (fs.length + (i + fs.length - hand) % fs.length) = (hand + (i + fs.length - hand) % fs.length) + fs.length := by omega
      rw [e1, Nat.add_mod_right, Nat.add_mod_mod, show hand + (i + fs.length - hand) = i + fs.length by omega, Nat.add_mod_right, Nat.mod_eq_of_lt hil]
      exact hi)
    rw [decide_eq_true (by omega)] at h1
    simp [goesB, h0] at h1
theorem seek_fit {fs : List Fm} {hand k : Nat} (h : seekTo fs hand k true) : k < 2 * fs.length ∧ ∃ f, fs[(hand + k) % fs.length]? = some f ∧ f.hd = 0 := by
  rcases h with ⟨_, h1, ⟨f, hf, hg⟩, _⟩ | ⟨e, _⟩
  · refine ⟨h1, f, hf, ?_⟩
    unfold goesB at hg
    simp at hg
    exact hg.1
  · cases e
set_option maxHeartbeats 4000000 in
set_option maxRecDepth 100000 in
theorem found_miss {w : World} {x : Po} (h : PoAt w x) {page : Nat} (hp : page < x.pages) (hno : page ∉ (ids x.fs).map (·.1)) :
    Calls Tryz.prog 168 #[.pointer (some ⟨x.pp, 0, none⟩), .int .i64 (page : Int)] w fun e w' => (e = .returned (.tuple #[.pointer none, .int .i64 9]) ∧ x.fs.length = x.most ∧ (∀ f ∈ x.fs, f.hd ≠ 0) ∧ Fr [] w w') ∨ ∃ g x', e = .returned (.tuple #[.pointer (some ⟨g, 0, none⟩), .int .i64 0]) ∧ Step w w' x x' ∧ Missed x x' page g ∧ w.heap.size ≤ g := by
  obtain ⟨S, hS, hT⟩ := h.mp
  have hSf : S (page : Int) = none := by
    cases e : S (page : Int) with
    | none => rfl
    | some b =>
      obtain ⟨q, hq, h1, _⟩ := hT.only _ _ e
      exact absurd (List.mem_map.2 ⟨q, hq, by omega⟩) hno
  have n2 := h.lo.dev.n2
  have area := h.area
  have hwf : (Lit.int .i64 (page : Int)).wf = true := WalkArith.wf_i64 (by omega)
  have c6 := h.box.c6
  have HH := hidI h
  have HS := hidI hS
  have hkn : (x.start : Int) + (page : Int) < x.y.nb := by omega
  have hw : IntKind.i64.wrap ((x.start : Int) + (page : Int)) = (x.start : Int) + (page : Int) := wrapI _ (by omega) (by omega)
  have HPD : Hid (Dv.latest x.y.S x.y.O ((x.start : Int) + (page : Int)) = pgD x.start x.y page) := hidI rfl
  clear h hS
  go_enter Tryz.func168, Tryz.ntmps168
  go_wp2_with (refine wp_pLook rfl _ _ rfl x.mp S (page : Int) hwf rfl rfl HS.out ?_; rw [hSf]; simp only [ptV, Option.map_none, Option.isSome_none])
  refine (leaving_any HH.out).mono ?_
  rintro e w1 ⟨k, b, rfl, f1, hk⟩
  have H1 := hidI (HH.out.kept f1 (by simp))
  have b0 : w1.cell? ⟨x.pp, 0, none⟩ = some (.pointer (some ⟨x.y.d, 0, none⟩)) := H1.out.box.c0
  have b2 : w1.cell? ⟨x.pp, 2, none⟩ = some (.int .i64 (x.start : Int)) := H1.out.box.c2
  cases b with
  | false =>
    go_wp2_with fail
    go_ret2
    left
    rcases hk.out with ⟨_, _, e⟩ | ⟨h1, h2⟩
    · cases e
    · exact ⟨rfl, h1, seek_held (by have := HH.out.hh h1; omega) h2, f1⟩
  | true =>
    go_wp2_with fail
    go_region_law ((go_simp; go_at_call 83; refine (dread (dev_kept H1.out.lo.dev (Fr.refl [] w1).drew (by simp) (by simp) (by simp)) ((x.start : Int) + (page : Int)) (by omega) hkn).mono ?_; rintro e w3 ⟨gb, rfl, b3, hg3, f3⟩))
    all_goals
      have hl3 := latest_len H1.out.lo.dev ((x.start : Int) + (page : Int))
      rw [HPD.out] at b3 hl3
      have f13 : Fr [] w w3 := f1.trans ((Fr.refl [] w1).drew.trans f3)
      have B3 := hidI b3
      have HL3 := hidI hl3
      clear b3 hl3 b0 b2 c6
      go_wp2_with (first
        | (refine wp_buildF rfl _ rfl (page : Int) rfl ?_; intro V HV)
        | (refine wp_boxF rfl _ rfl page V rfl HV ?_; intro w4 g hg4 F4 f4)
        | (refine wp_copyF rfl _ _ rfl (newF g page (zs 512)) 0 512 512 (some ⟨gb, 0, none⟩) 512 512 (pgD x.start x.y page) rfl rfl F4 HL3.out (by rw [HL3.out]; omega) (B3.out.bytes.kept f4 (by simp)) (by rw [HL3.out]; omega) ?_; intro w5 F5 f5; rw [HL3.out]))
      have F5' : FAt w5 (newF g page (pgD x.start x.y page)) := by
        have h1 := F5
        have h2 : over (zs 512) 0 (pgD x.start x.y page) = pgD x.start x.y page := over_all (by rw [HL3.out, zs_length])
        rw [show (newF g page (zs 512)).l = zs 512 from rfl, h2] at h1
        exact h1
      have hgw : w.heap.size ≤ g := Nat.le_trans f13.size hg4
      have f35 : Fr [] w w5 := (f13.trans f4).then f5 (fun i hi e => by
        have h1 : i = g := by simpa [newF] using e
        omega)
      have H5 := hidI (HH.out.kept f35 (by simp))
      have S5 := HS.out.kept f35 (by simp)
      have hgo : (newF g page (pgD x.start x.y page)).b ∉ x.own := fun e => by
        have h1 := HH.out.lt g (List.mem_cons_of_mem _ e)
        omega
      have hok : FOk x.start x.pages x.y (newF g page (pgD x.start x.y page)) := ⟨hp, Int.le_refl _, by show (0 : Int) ≤ 1000000; omega, Int.le_refl _, Int.le_refl _, by show (0 : Int) ≤ (x.y.E : Int); omega, fun _ => rfl⟩
      have FN5 := hidI F5'
      clear F5' F5 F4 f3 f4 f5 f13
      have key : ∀ w6 x' S', Mid w6 x' S' → TabOk (S'.put (page : Int) g) (ids x'.fs) → x'.mp = x.mp → Fr x.own w5 w6 → (∀ i ∈ x'.own, i ∈ x.own ∨ i = g ∨ w5.heap.size ≤ i) → ∀ w7, pMap w7 x.mp (S'.put (page : Int) g) → Fr [x.mp] w6 w7 → Step w w7 x x' := by
        intro w6 x' S' hM hTT hmp fr6 ow6 w7 hm7 f7
        rw [← hmp] at hm7 f7
        refine ⟨(hM.put hm7 f7).po hTT, ?_, ?_⟩
        · exact ((f35.mono (fun _ _ e => nomatch e)).trans fr6).trans (f7.mono (fun i _ hi => by simp at hi; rw [hi, hmp]; simp [Po.own]))
        · intro i hi
          rcases ow6 i hi with h1 | h1 | h1
          · exact Or.inl h1
          · exact Or.inr (by omega)
          · exact Or.inr (Nat.le_trans f35.size h1)
      rcases hk.out with ⟨h1, rfl, _⟩ | ⟨h1, h2⟩
      · refine (enter_spare H5.out S5 h1 FN5.out hgo hno hok 0).mono ?_
        rintro e w6 ⟨rfl, a, c, M6, fr6, ow6⟩
        have d6 : w6.cell? ⟨x.pp, 6, none⟩ = some (.map (some x.mp)) := M6.box.c6
        have HM6 := hidI M6
        clear M6
        go_wp2_with (refine wp_pPut rfl _ _ _ rfl x.mp S (page : Int) g (by omega) (by omega) rfl rfl rfl HM6.out.mp ?_; intro w7 M7 f7)
        go_ret2
        refine Or.inr ⟨g, _, rfl, key w6 _ S HM6.out ?_ rfl fr6 ow6 w7 M7 f7, Or.inl ⟨h1, a, c, rfl⟩, hgw⟩
        show TabOk _ (ids (x.fs ++ [newF g page (pgD x.start x.y page)]))
        unfold ids
        rw [List.map_append]
        exact hT.add hno
      · obtain ⟨hk2, f, hf, hf0⟩ := seek_fit h2
        refine (enter_full H5.out h1 FN5.out hgo hno hok k hk2 rfl hf).mono ?_
        rintro e w6 ⟨rfl, y', S', M6, T6, hkin, hpq, hpf, hlst, fr6, ow6⟩
        have d6 : w6.cell? ⟨x.pp, 6, none⟩ = some (.map (some x.mp)) := M6.box.c6
        have HM6 := hidI M6
        clear M6
        go_wp2_with (refine wp_pPut rfl _ _ _ rfl x.mp S' (page : Int) g (by omega) (by omega) rfl rfl rfl HM6.out.mp ?_; intro w7 M7 f7)
        go_ret2
        exact Or.inr ⟨g, _, rfl, key w6 _ S' HM6.out T6 rfl fr6 ow6 w7 M7 f7, Or.inr ⟨h1, y', k, _, f, h2, rfl, hf, hf0, rfl, hkin, hpq, hpf, hlst⟩, hgw⟩
end Go.Proofs.YtopaeomjndblkaaGreat

namespace Go.Proofs.YtopaeomjndblkaaGreat
open Go.RowKit Go.Maps

/-- The frame of a page, and what the pool is then. -/
def Fnd (x x' : Po) (page : Nat) (f : Fm) : Prop :=
  (∃ j f0, x.fs[j]? = some f0 ∧ f0.pg = page ∧ f = { f0 with ask := true } ∧ x' = x.asked j f0) ∨
  (page ∉ (ids x.fs).map (·.1) ∧ Missed x x' page f.b ∧ f = newF f.b page (pgD x.start x.y page))
theorem Missed.at {x x' : Po} {page g : Nat} (h : Missed x x' page g) : ∃ j : Nat, x'.fs[j]? = some (newF g page (pgD x.start x.y page)) := by
  rcases h with ⟨_, a, c, rfl⟩ | ⟨_, y', k, j, f, _, _, hf, _, rfl, _⟩
  · exact ⟨x.fs.length, by simp [Po.added]⟩
  · refine ⟨j, ?_⟩
    show ((turnS k (x.fs.set j { f with fst := 0 }, x.hand)).1.set j _)[j]? = _
    rw [List.getElem?_set_self]
    rw [turnS_len, List.length_set]
    exact (List.getElem?_eq_some_iff.1 hf).1
theorem pg_in {fs : List Fm} {page : Nat} (h : page ∈ (ids fs).map (·.1)) : ∃ (j : Nat) (f : Fm), fs[j]? = some f ∧ f.pg = page := by
  obtain ⟨q, hq, rfl⟩ := List.mem_map.1 h
  obtain ⟨f, hf, rfl⟩ := List.mem_map.1 hq
  obtain ⟨j, hj⟩ := List.mem_iff_getElem?.1 hf
  exact ⟨j, f, hj, rfl⟩
/-- All frames are held, and the page is in none. -/
def Busy (x : Po) (page : Nat) : Prop := x.fs.length = x.most ∧ page ∉ (ids x.fs).map (·.1) ∧ ∀ f ∈ x.fs, f.hd ≠ 0
theorem found_any {w : World} {x : Po} (h : PoAt w x) {page : Nat} (hp : page < x.pages) :
    Calls Tryz.prog 168 #[.pointer (some ⟨x.pp, 0, none⟩), .int .i64 (page : Int)] w fun e w' => (e = .returned (.tuple #[.pointer none, .int .i64 9]) ∧ Busy x page ∧ Fr [] w w') ∨ ∃ (f : Fm) (x' : Po) (j : Nat), e = .returned (.tuple #[.pointer (some ⟨f.b, 0, none⟩), .int .i64 0]) ∧ Step w w' x x' ∧ Fnd x x' page f ∧ x'.fs[j]? = some f := by
  by_cases hin : page ∈ (ids x.fs).map (·.1)
  · obtain ⟨j, f, hj, rfl⟩ := pg_in hin
    refine (found_hit h hj).mono ?_
    rintro e w' ⟨he, _, _, st⟩
    exact Or.inr ⟨{ f with ask := true }, _, j, he, st, Or.inl ⟨j, f, hj, rfl, rfl, rfl⟩, by
      show (x.fs.set j _)[j]? = _
      rw [List.getElem?_set_self (List.getElem?_eq_some_iff.1 hj).1]⟩
  · refine (found_miss h hp hin).mono ?_
    rintro e w' (⟨he, h1, h2, fr⟩ | ⟨g, x', he, st, hm, _⟩)
    · exact Or.inl ⟨he, ⟨h1, hin, h2⟩, fr⟩
    · obtain ⟨j, hj⟩ := hm.at
      exact Or.inr ⟨newF g page (pgD x.start x.y page), x', j, he, st, Or.inr ⟨hin, hm, rfl⟩, hj⟩
set_option maxHeartbeats 400000 in
theorem pmade_yes {w : World} {pp : Nat} {x : Pf} (h : PBox' w pp x) : Calls Tryz.prog 75 #[.pointer (some ⟨pp, 0, none⟩)] w fun e w' => e = .returned (.bool true) ∧ w' = w := by
  have c0 := h.c0
  go_enter Tryz.func75, Tryz.ntmps75
  go_wp2
  go_ret
  exact ⟨rfl, rfl⟩
/-- No pool, or one that nobody made. -/
def NoPool (w : World) (v : Value) : Prop := v = .pointer none ∨ ∃ p, v = .pointer (some ⟨p, 0, none⟩) ∧ w.cell? ⟨p, 0, none⟩ = some (.pointer none)
/-- What every call on a page is told first. -/
def hasR (x : Pf) (k : Int) : Int := if k < 0 ∨ (x.pages : Int) ≤ k then 6 else 0
set_option maxHeartbeats 1000000 in
theorem has_any {w : World} {pp : Nat} {x : Pf} (h : PBox' w pp x) (k : Int) : Calls Tryz.prog 167 #[.pointer (some ⟨pp, 0, none⟩), .int .i64 k] w fun e w' => e = .returned (.int .i64 (hasR x k)) ∧ w' = w := by
  have c3 := h.c3
  have HB := hidI h
  unfold hasR
  by_cases h0 : k < 0
  · rw [if_pos (Or.inl h0)]
    go_enter Tryz.func167, Tryz.ntmps167
    go_wp2_with (go_at_call 75; refine (pmade_yes HB.out).mono ?_; rintro e wz ⟨rfl, hz⟩; rw [hz]; clear hz)
    go_ret
    exact ⟨rfl, rfl⟩
  · by_cases h1 : (x.pages : Int) ≤ k
    · rw [if_pos (Or.inr h1)]
      go_enter Tryz.func167, Tryz.ntmps167
      go_wp2_with (go_at_call 75; refine (pmade_yes HB.out).mono ?_; rintro e wz ⟨rfl, hz⟩; rw [hz]; clear hz)
      go_ret
      exact ⟨rfl, rfl⟩
    · rw [if_neg (by omega)]
      go_enter Tryz.func167, Tryz.ntmps167
      go_wp2_with (go_at_call 75; refine (pmade_yes HB.out).mono ?_; rintro e wz ⟨rfl, hz⟩; rw [hz]; clear hz)
      go_ret
      exact ⟨rfl, rfl⟩
set_option maxHeartbeats 1000000 in
theorem reach_any {w : World} {x : Po} (h : PoAt w x) {page : Nat} (hp : page < x.pages) :
    Calls Tryz.prog 171 #[.pointer (some ⟨x.pp, 0, none⟩), .int .i64 (page : Int)] w fun e w' => (e = .returned (.tuple #[.pointer none, .int .i64 9]) ∧ Busy x page ∧ Fr [] w w') ∨ ∃ (f : Fm) (x' : Po) (j : Nat), e = .returned (.tuple #[.pointer (some ⟨f.b, 0, none⟩), .int .i64 0]) ∧ Step w w' x x' ∧ Fnd x x' page f ∧ x'.fs[j]? = some f := by
  have HH := hidI h
  have hr : hasR x.pf (page : Int) = 0 := by
    unfold hasR
    rw [if_neg (by show ¬ ((page : Int) < 0 ∨ (x.pages : Int) ≤ (page : Int)); omega)]
  clear h
  go_enter Tryz.func171, Tryz.ntmps171
  go_wp2_with (go_at_call 167; refine (has_any HH.out.box _).mono ?_; rw [hr]; rintro e wz ⟨rfl, hz⟩; rw [hz]; clear hz)
  refine (found_any HH.out hp).mono ?_
  rintro e w' (⟨rfl, h1, h2⟩ | ⟨f, x', j, rfl, h1, h2, h3⟩)
  · go_wp2_with fail
    go_ret2
    exact Or.inl ⟨rfl, h1, h2⟩
  · go_wp2_with fail
    go_ret2
    exact Or.inr ⟨f, x', j, rfl, h1, h2, h3⟩
set_option maxHeartbeats 1000000 in
set_option maxRecDepth 100000 in
theorem read_any {w : World} {x : Po} (h : PoAt w x) {page : Nat} (hp : page < x.pages) :
    Calls Tryz.prog 71 #[.pointer (some ⟨x.pp, 0, none⟩), .int .i64 (page : Int)] w fun e w' => (e = .returned (.tuple #[.slice none 0 0, .int .i64 9]) ∧ Busy x page ∧ Fr [] w w') ∨ ∃ (f : Fm) (x' : Po) (j g : Nat), e = .returned (.tuple #[.slice (some ⟨g, 0, none⟩) 512 512, .int .i64 0]) ∧ Step w w' x x' ∧ Fnd x x' page f ∧ x'.fs[j]? = some f ∧ Blk w' g f.l ∧ w.heap.size ≤ g ∧ g ∉ x'.own := by
  have HH := hidI h
  clear h
  go_enter Tryz.func71, Tryz.ntmps71
  go_wp2_with fail
  refine (reach_any HH.out hp).mono ?_
  rintro e w' (⟨rfl, h1, h2⟩ | ⟨f, x', j, rfl, h1, h2, h3⟩)
  · go_wp2_with fail
    go_ret2
    exact Or.inl ⟨rfl, h1, h2⟩
  · have FA := hidI (h1.at'.rn.frames f (List.mem_of_getElem? h3))
    have ST := hidI h1
    clear h1
    go_wp2_with (first
      | (refine wp_make rfl _ _ rfl 512 rfl rfl (by omega) ?_; intro w1 g hg1 b1 f1)
      | (refine wp_copyB rfl _ _ rfl g 0 (some ⟨g, 0, none⟩) 512 512 (some ⟨f.b, 1, none⟩) 512 512 512 (zs 512) f.l rfl rfl b1.row FA.out.len (fun _ => rfl) ((FA.out.kept f1 (by simp)).bytes) (by rw [FA.out.len, zs_length]; omega) ?_; intro w2 r2 f2; rw [FA.out.len]))
    go_ret2
    have hl := FA.out.len
    have e1 : over (zs 512) 0 f.l = f.l := over_all (by rw [hl, zs_length])
    rw [e1] at r2
    have hb : Blk w2 g f.l := by
      obtain ⟨t, ht, hsz⟩ := r2
      have ht0 : t = [] := List.eq_nil_of_length_eq_zero (by omega)
      subst ht0
      simpa [Blk] using ht
    have hgx : g ∉ x'.own := fun e => by
      have h4 := ST.out.at'.lt g (List.mem_cons_of_mem _ e)
      omega
    have f12 : Fr [] w' w2 := f1.then f2 (fun i hi e => by simp at e; omega)
    exact Or.inr ⟨f, x', j, g, rfl, ⟨ST.out.at'.kept f12 (by simp), ST.out.fr.then f12 (fun _ _ e => nomatch e), ST.out.ow⟩, h2, h3, hb, Nat.le_trans ST.out.fr.size hg1, hgx⟩
/-- A frame whose page is changed. -/
def Fm.changed (f : Fm) (off : Nat) (l : List UInt8) (lsn : Int) : Fm := { f with l := over f.l off l, fst := if 0 < f.fst then f.fst else lsn, lst := max f.lst lsn }
set_option maxHeartbeats 1000000 in
theorem fchange_any {w : World} {f : Fm} (h : FAt w f) (off : Nat) (ad : Option Addr) (c : Nat) (l : List UInt8) (lsn : Int) (hl : 0 < l.length) (hfit : off + l.length ≤ 512) (hb : BytesAt w ad l) :
    Calls Tryz.prog 169 #[.pointer (some ⟨f.b, 0, none⟩), .int .i64 (off : Int), .slice ad l.length c, .int .i64 lsn] w fun e w' => e = .returned (.tuple #[]) ∧ FAt w' (f.changed off l lsn) ∧ Fr [f.b] w w' := by
  have q0 : (0 : Int) ≤ (off : Int) := by omega
  have q1 : (off : Int) ≤ 512 := by omega
  have q2 : ¬ 512 = off := by omega
  have HF := hidI h
  have HL : Hid (l.length = Nat.min l.length (512 - off)) := hidI (by show l.length = min l.length (512 - off); omega)
  obtain ⟨n, HN⟩ : ∃ n, Hid (l.length = n) := ⟨_, rfl⟩
  rw [HN.out]
  have HL' : Hid (l.length = Nat.min n (512 - off)) := hidI (by have := HL.out; rw [HN.out] at this ⊢; exact this)
  clear h
  by_cases hd : 0 < f.fst
  · have hdt : decide (0 < f.fst) = true := decide_eq_true hd
    have hfc : f.changed off l lsn = { { f with l := over f.l off l } with lst := max f.lst lsn } := by
      unfold Fm.changed
      rw [if_pos hd]
    rw [hfc]
    go_enter Tryz.func169, Tryz.ntmps169
    go_wp2_with (first
      | (refine wp_copyF rfl _ _ rfl f off (512 - off) (512 - off) ad n c l rfl rfl HF.out HL'.out hl hb hfit ?_; intro w2 F2 f2; have FH := hidI F2; have d5 := F2.c5; have z5 := F2.fz 516)
      | (go_at_call 187; refine (dirty_any FH.out).mono ?_; rw [show ({ f with l := over f.l off l } : Fm).fst = f.fst from rfl, hdt]; rintro e wz ⟨rfl, hz⟩; rw [hz]; clear hz))
    all_goals
      go_end0
      refine ⟨rfl, ?_, ?_⟩
      · first
          | (rw [Int.max_eq_left (by omega)]; exact FH.out.s5 _)
          | (rw [Int.max_eq_right (by omega)]; exact FH.out.s5 _)
      · exact f2.setCell _ _ (fun _ => by simp)
  · have hdt : decide (0 < f.fst) = false := decide_eq_false hd
    have hfc : f.changed off l lsn = { { { f with l := over f.l off l } with fst := lsn } with lst := max f.lst lsn } := by
      unfold Fm.changed
      rw [if_neg hd]
    rw [hfc]
    go_enter Tryz.func169, Tryz.ntmps169
    go_wp2_with (first
      | (refine wp_copyF rfl _ _ rfl f off (512 - off) (512 - off) ad n c l rfl rfl HF.out HL'.out hl hb hfit ?_; intro w2 F2 f2; have FH := hidI F2; have d4 := F2.c4; have z4 := F2.fz 515; have F3 := F2.s4 lsn; have d5 := F3.c5; have z5 := F3.fz 516; have FH3 := hidI F3)
      | (go_at_call 187; refine (dirty_any FH.out).mono ?_; rw [show ({ f with l := over f.l off l } : Fm).fst = f.fst from rfl, hdt]; rintro e wz ⟨rfl, hz⟩; rw [hz]; clear hz))
    all_goals
      go_end0
      refine ⟨rfl, ?_, ?_⟩
      · first
          | (rw [Int.max_eq_left (by omega)]; exact FH3.out.s5 _)
          | (rw [Int.max_eq_right (by omega)]; exact FH3.out.s5 _)
      · exact (f2.setCell _ _ (fun _ => by simp)).setCell _ _ (fun _ => by simp)
end Go.Proofs.YtopaeomjndblkaaGreat

namespace Go.Proofs.YtopaeomjndblkaaGreat
open Go.RowKit Go.Maps

theorem NoPool.kept {w w' : World} {v : Value} {L : List Nat} (h : NoPool w v) (f : Fr L w w') (hL : ∀ p, v = .pointer (some ⟨p, 0, none⟩) → p ∉ L) : NoPool w' v := by
  rcases h with rfl | ⟨p, rfl, h⟩
  · exact Or.inl rfl
  · refine Or.inr ⟨p, rfl, ?_⟩
    rw [← h]
    exact World.cell?_of_block (f.block p (block_lt_of_cell h) (hL p rfl))
set_option maxHeartbeats 4000000 in
theorem change_any {w : World} {x : Po} (h : PoAt w x) {page : Nat} (hp : page < x.pages) (off : Nat) (a1 : Option Addr) (n1 c1 : Nat) (ad : Option Addr) (c : Nat) (l : List UInt8) (hl : 0 < l.length) (hfit : off + l.length ≤ 512) (hb : BytesAt w ad l) (hbo : ∀ b o, ad = some ⟨b, o, none⟩ → b ∉ x.own) (lsn : Int) (hl1 : 1 ≤ lsn) (hl2 : lsn ≤ (x.y.E : Int)) :
    Calls Tryz.prog 69 #[.pointer (some ⟨x.pp, 0, none⟩), .agg #[.int .i64 (page : Int), .int .i64 (off : Int), .slice a1 n1 c1, .slice ad l.length c], .int .i64 lsn] w fun e w' => (e = .returned (.int .i64 9) ∧ Busy x page ∧ Fr [] w w') ∨ ∃ (f : Fm) (x' : Po) (j : Nat), e = .returned (.int .i64 0) ∧ Step w w' x { x' with fs := x'.fs.set j (f.changed off l lsn) } ∧ Fnd x x' page f ∧ x'.fs[j]? = some f := by
  obtain ⟨n, HN⟩ : ∃ n, Hid (l.length = n) := ⟨_, rfl⟩
  rw [HN.out]
  have fa : Fr [] w (w.alloc (.cells #[.int .i64 (page : Int), .int .i64 (off : Int), .slice a1 n1 c1, .slice ad n c] 42)) := (Fr.refl [] w).alloc _
  have hnew := hidI (heap_alloc_new w (.cells #[.int .i64 (page : Int), .int .i64 (off : Int), .slice a1 n1 c1, .slice ad n c] 42))
  have H1 := hidI (h.kept fa (by simp))
  have HB1 := hidI (hb.kept fa (by simp))
  have hr : hasR x.pf (page : Int) = 0 := by
    unfold hasR
    rw [if_neg (by show ¬ ((page : Int) < 0 ∨ (x.pages : Int) ≤ (page : Int)); omega)]
  have hnn : n ≤ 512 := by rw [← HN.out]; omega
  have q0 : ¬ (off : Int) < 0 := by omega
  have q1 : ((n : Int) == 0) = false := by rw [beq_eq_false_iff_ne]; have := HN.out; omega
  have q2 : IntKind.i64.wrap (512 - (n : Int)) = 512 - (n : Int) := wrapI _ (by omega) (by omega)
  have q3 : ¬ 512 - (n : Int) < (off : Int) := by have := HN.out; omega
  have q4 : ¬ lsn < 1 := by omega
  have q5 : ¬ (x.y.E : Int) + 1 ≤ lsn := by omega
  have b1 : (w.alloc (.cells #[.int .i64 (page : Int), .int .i64 (off : Int), .slice a1 n1 c1, .slice ad n c] 42)).cell? ⟨x.pp, 1, none⟩ = some (.pointer (some ⟨x.y.p, 0, none⟩)) := H1.out.box.c1
  have HLT := hidI h.lt
  clear h hb
  go_enter Tryz.func69, Tryz.ntmps69
  go_wp2_with (first
    | (go_at_call 167; refine (has_any H1.out.box _).mono ?_; rw [hr]; rintro e wz ⟨rfl, hz⟩; rw [hz]; clear hz)
    | (go_at_call 77; refine (lo_end H1.out.lo).mono ?_; rintro e wz ⟨rfl, hz⟩; rw [hz]; clear hz))
  refine (found_any H1.out hp).mono ?_
  rintro e w2 (⟨rfl, h1, h2⟩ | ⟨f, x', j, rfl, h1, h2, h3⟩)
  · go_wp2_with fail
    go_ret
    exact Or.inl ⟨rfl, h1, fa.trans h2⟩
  · have hns : w.heap.size ∉ x.own := fun e => by
      have := HLT.out _ (List.mem_cons_of_mem _ e)
      omega
    have s2 := h1.fr.same hns hnew.out
    have d1 := cell_of_row w2 w.heap.size 1 _ _ _ s2
    have d3 := cell_of_row w2 w.heap.size 3 _ _ _ s2
    have FA := hidI (h1.at'.rn.frames f (List.mem_of_getElem? h3))
    have HB2 := hidI (HB1.out.kept h1.fr (fun b o e => hbo b o e))
    have ST := hidI h1
    have HOK := hidI (h1.at'.ok f (List.mem_of_getElem? h3))
    clear h1
    go_wp2_with fail
    have hfc := fchange_any FA.out off ad c l lsn hl hfit HB2.out
    rw [HN.out] at hfc
    refine hfc.mono ?_
    rintro e w3 ⟨rfl, F3, f3⟩
    go_wp2_with fail
    go_ret
    have hE : x'.y.E = x.y.E := by
      rcases h2 with ⟨j0, f0, _, _, _, rfl⟩ | ⟨_, hm, _⟩
      · rfl
      · rcases hm with ⟨_, a, c, rfl⟩ | ⟨_, y', k, j, f, _, _, _, _, rfl, hk, _⟩
        · rfl
        · exact hk.E
    have hok2 : FOk x'.start x'.pages x'.y (f.changed off l lsn) := by
      have ho := HOK.out
      refine ⟨ho.pg, ho.h0, ho.h1, ?_, ?_, ?_, ?_⟩
      · show 0 ≤ (if 0 < f.fst then f.fst else lsn)
        split <;> omega
      · show 0 ≤ max f.lst lsn
        have := ho.l0
        omega
      · show max f.lst lsn ≤ (x'.y.E : Int)
        have := ho.l1
        rw [hE] at this ⊢
        omega
      · intro e
        exfalso
        have e' : (if 0 < f.fst then f.fst else lsn) = 0 := e
        split at e' <;> omega
    have st2 := Step.asked (w' := w3) ST.out.at' h3 (f' := f.changed off l lsn) rfl rfl hok2 F3 f3
    have st0 : Step w (w.alloc (.cells #[.int .i64 (page : Int), .int .i64 (off : Int), .slice a1 n1 c1, .slice ad n c] 42)) x x := ⟨H1.out, fa.mono (fun _ _ e => nomatch e), fun k hk => Or.inl hk⟩
    exact Or.inr ⟨f, x', j, rfl, (st0.trans ST.out).trans st2, h2, h3⟩
theorem pages_any {w : World} {pp : Nat} {x : Pf} (h : PBox' w pp x) : Calls Tryz.prog 17 #[.pointer (some ⟨pp, 0, none⟩)] w fun e w' => e = .returned (.int .i64 (x.pages : Int)) ∧ w' = w := by
  have c3 := h.c3
  go_enter Tryz.func17, Tryz.ntmps17
  go_wp2_with (go_at_call 75; refine (pmade_yes h).mono ?_; rintro e wz ⟨rfl, hz⟩; rw [hz]; clear hz)
  go_ret
  exact ⟨rfl, rfl⟩
set_option maxRecDepth 100000 in
theorem len64_zero (w : World) : Calls Tryz.prog 276 #[.int .u64 0] w fun e w' => ∃ k, e = .returned (.int .i64 k) ∧ w' = w := by
  go_enter Tryz.func276, Tryz.ntmps276
  go_wp2
  go_ret
  exact ⟨_, rfl, rfl⟩
end Go.Proofs.YtopaeomjndblkaaGreat

