/-
  Flush where no page is dirty; a pool that is made.
-/
import Derived.Test.YthajipigppndgaaGreatY18Z
namespace Go.Proofs.YthajipigppndgaaGreat
open Go.RowKit Go.Maps

def newF (b pg : Nat) (l : List UInt8) : Fm := ⟨b, pg, l, 0, false, 0, 0⟩
def newV (n : Int) : Array Value := ((Value.int .i64 n :: (arr (zs 512)).toList) ++ [Value.int .i64 0, Value.bool false, Value.int .i64 0, Value.int .i64 0]).toArray
theorem run_buildF (w : World) (n : Int) : (Instr.build 200 #[(0, .int .i64 n)]).run Tryz.prog w = .ok (.agg (newV n)) w := by kernel_rfl
theorem cells_newV (n : Int) : (Value.agg (newV n)).cells = newV n := by rfl
section
variable {ops : Array Oper} {rest : List Oper} {o : Oper} {a : Act} {w : World} {Q : Exit → Act → World → Prop}
theorem wp_buildF (hgd : o.guard = none) (v : Operand) (ho : o.op = .build 200 #[(0, v)]) (n : Int) (hv : a.eval v = .int .i64 n)
    (h : ∀ V, Hid (V = newV n) → wpList Tryz.prog ops Q rest (a.put o.dst (.agg V)) w) : wpList Tryz.prog ops Q (o :: rest) a w :=
  wpList_plain hgd fun K hK => by
    unfold Oper.wp execOp
    simp [ho, hv, run_buildF, Result.andThen]
    exact hK _ _ (h _ rfl)
theorem wp_boxF (hgd : o.guard = none) (v : Operand) (ho : o.op = .box 200 v) (pg : Nat) (V : Array Value) (hv : a.eval v = .agg V) (hV : Hid (V = newV (pg : Int)))
    (h : ∀ w' g, w.heap.size ≤ g → FAt w' (newF g pg (zs 512)) → Fr [] w w' → wpList Tryz.prog ops Q rest (a.put o.dst (.pointer (some ⟨g, 0, none⟩))) w') : wpList Tryz.prog ops Q (o :: rest) a w :=
  wpList_plain hgd fun K hK => by
    unfold Oper.wp execOp
    simp only [ho, Sem.run_bind, Instr.box, newVar, newRow, run_newObj_alloc, Sem.run_pure, Result.andThen_ok, hv, hV.out, cells_newV]
    exact hK _ _ (h _ _ (Nat.le_refl _) ⟨zs_length 512, heap_alloc_new w _⟩ ((Fr.refl _ _).alloc _))
end
theorem over_all {p l : List UInt8} (h : l.length = p.length) : over p 0 l = l := by
  unfold over
  rw [List.take_zero, List.nil_append, Nat.zero_add, h, List.drop_length, List.append_nil]
def Po.asked (x : Po) (j : Nat) (f : Fm) : Po := { x with fs := x.fs.set j { f with ask := true } }
theorem Step.asked {w w' : World} {x : Po} (h : PoAt w x) {j : Nat} {f : Fm} (hj : x.fs[j]? = some f) {f' : Fm} (hb : f'.b = f.b) (hp : f'.pg = f.pg) (hok : FOk x.start x.pages x.y f') (hf : FAt w' f') (fr : Fr [f.b] w w') : Step w w' x { x with fs := x.fs.set j f' } := by
  have hm := List.mem_of_getElem? hj
  have hfo : f.b ∈ ownR x.rp x.sa x.fs := by rw [ownR_mem]; exact Or.inr (Or.inr ⟨f, hm, rfl⟩)
  obtain ⟨S, hS, hT⟩ := h.mp
  refine ⟨{ lo := h.lo.kept fr (fun i hi e => by simp at e; subst e; exact h.d1 _ hfo hi), box := h.box.kept fr (fun e => by simp at e; exact h.d4 (by rw [e]; exact own_b hj)), rn := h.rn.setF hj hb hf fr, mp := ⟨S, hS.kept fr (fun e => by simp at e; exact h.d2 (by rw [e]; exact hfo)), by show TabOk S (ids (x.fs.set j f')); rw [ids_set hj hp hb]; exact hT⟩, mne := h.mne, nod := by show ((ids (x.fs.set j f')).map (·.1)).Nodup; rw [ids_set hj hp hb]; exact h.nod, ok := ?_, hl := ?_, m0 := h.m0, m1 := h.m1, hh := ?_, hh0 := ?_, p1 := h.p1, area := h.area, dis := h.dis, hlw := h.hlw }, ?_, ?_⟩
  · intro g hg
    rcases mem_set hj hg with rfl | ⟨i, _, hgi⟩
    · exact hok
    · exact h.ok g (List.mem_of_getElem? hgi)
  · show (x.fs.set j f').length ≤ x.most
    rw [List.length_set]
    exact h.hl
  · show (x.fs.set j f').length = x.most → _
    rw [List.length_set]
    exact h.hh
  · show (x.fs.set j f').length < x.most → _
    rw [List.length_set]
    exact h.hh0
  · exact fr.mono (fun i _ hi => by simp at hi; subst hi; exact own_b hj)
  · intro i hi
    have hi2 : i = x.mp ∨ i ∈ ownR x.rp x.sa (x.fs.set j f') ∨ i ∈ x.y.own := by simpa [Po.own] using hi
    rw [ownR_set hj hb] at hi2
    left
    simpa [Po.own] using hi2
set_option maxHeartbeats 2000000 in
theorem found_hit {w : World} {x : Po} (h : PoAt w x) {j : Nat} {f : Fm} (hj : x.fs[j]? = some f) :
    Calls Tryz.prog 228 #[.pointer (some ⟨x.pp, 0, none⟩), .int .i64 (f.pg : Int)] w fun e w' => e = .returned (.tuple #[.pointer (some ⟨f.b, 0, none⟩), .int .i64 0]) ∧ FAt w' { f with ask := true } ∧ Fr [f.b] w w' ∧ Step w w' x (x.asked j f) := by
  have hm := List.mem_of_getElem? hj
  obtain ⟨S, hS, hT⟩ := h.mp
  have hSf : S (f.pg : Int) = some f.b := hT.has (f.pg, f.b) (List.mem_map.2 ⟨f, hm, rfl⟩)
  have hok := h.ok f hm
  have hwf : (Lit.int .i64 (f.pg : Int)).wf = true := WalkArith.wf_i64 (by have := hok.pg; have := h.area; have := h.lo.dev.n2; omega)
  have c6 := h.box.c6
  have FA := h.rn.frames f hm
  have c3 := FA.c3
  have z3 := FA.fz 514
  have HF := hidI (FA.s3 true)
  have HH := hidI h
  have HS := hidI hS
  have hfo : FOk x.start x.pages x.y { f with ask := true } := ⟨hok.pg, hok.h0, hok.h1, hok.f0, hok.l0, hok.l1, hok.cl⟩
  clear h hS FA
  go_enter Tryz.func228, Tryz.ntmps228
  go_wp2_with (refine wp_pLook rfl _ _ rfl x.mp S (f.pg : Int) hwf rfl rfl HS.out ?_; rw [hSf]; simp only [ptV, Option.map_some, Option.isSome_some])
  go_ret2
  exact ⟨rfl, HF.out, fr_set _ _ _ _, Step.asked HH.out hj rfl rfl hfo HF.out (fr_set _ _ _ _)⟩
end Go.Proofs.YthajipigppndgaaGreat

namespace Go.Proofs.YthajipigppndgaaGreat
open Go.RowKit Go.Maps

theorem Mid.put {w w' : World} {x : Po} {S S' : PTab} (h : Mid w x S) (hm : pMap w' x.mp S') (f : Fr [x.mp] w w') : Mid w' x S' := by
  have hn := h.mp.notcells
  have d3 : x.mp ∉ x.y.own := by
    intro hk
    simp only [Lo.own, List.mem_append, List.mem_cons, List.not_mem_nil, or_false] at hk
    rcases hk with (e | e | e | e) | hk | hk
    · have h1 := h.lo.box
      unfold LBox at h1
      rw [← e] at h1
      exact hn _ _ h1
    · have h1 := h.lo.dev.cells
      rw [← e] at h1
      exact hn _ _ h1
    · exact h.mne.1 e
    · exact h.mne.2 e
    · obtain ⟨cur', hc⟩ := own0_type h.lo.bsA _ hk
      exact hn _ _ hc
    · obtain ⟨cur', hc⟩ := own0_type h.lo.lsA _ hk
      exact hn _ _ hc
  refine { h with lo := h.lo.kept f (fun i hi e => by simp at e; subst e; exact d3 hi), box := h.box.kept f (fun e => by simp at e; have h1 := h.box; unfold PBox' at h1; rw [e] at h1; exact hn _ _ h1), rn := h.rn.kept f (fun i hi e => ?_), mp := hm }
  simp at e
  subst e
  obtain ⟨cur, t, hc, _⟩ := h.rn.types _ hi
  exact hn _ _ hc
/-- What a pool is behind reading a page into a frame at block g. -/
def Missed (x x' : Po) (page g : Nat) : Prop :=
  (x.fs.length < x.most ∧ ∃ a c, x' = x.added a c (newF g page (pgD x.start x.y page))) ∨
  (x.fs.length = x.most ∧ ∃ y' k j f, seekTo x.fs x.hand k true ∧ (x.hand + k) % x.fs.length = j ∧ x.fs[j]? = some f ∧ f.hd = 0 ∧ x' = x.swapped y' k j f (newF g page (pgD x.start x.y page)) ∧ Kin x.y y' ∧ (∀ q, q < x.pages → q ≠ f.pg → pgD x.start y' q = pgD x.start x.y q) ∧ pgD x.start y' f.pg = f.l ∧ (0 < f.fst → f.lst ≤ (y'.P : Int)))
theorem seek_held {fs : List Fm} {hand k : Nat} (hh : hand < fs.length) (h : seekTo fs hand k false) : ∀ f ∈ fs, f.hd ≠ 0 := by
  intro f hf h0
  obtain ⟨i, hi⟩ := List.mem_iff_getElem?.1 hf
  have hil := (List.getElem?_eq_some_iff.1 hi).1
  rcases h with ⟨e, _⟩ | ⟨_, _, h⟩
  · cases e
  · have h1 := h (fs.length + (i + fs.length - hand) % fs.length) (by have := Nat.mod_lt (i + fs.length - hand) (show 0 < fs.length by omega); omega) f (by
      have e1 : hand + (fs.length + (i + fs.length - hand) % fs.length) = (hand + (i + fs.length - hand) % fs.length) + fs.length := by omega
      rw [e1, Nat.add_mod_right, Nat.add_mod_mod, show hand + (i + fs.length - hand) = i + fs.length by omega, Nat.add_mod_right, Nat.mod_eq_of_lt hil]
      exact hi)
    rw [decide_eq_true (by omega)] at h1
    simp [goesB, h0] at h1
theorem seek_fit {fs : List Fm} {hand k : Nat} (h : seekTo fs hand k true) : k < 2 * fs.length ∧ ∃ f, fs[(hand + k) % fs.length]? = some f ∧ f.hd = 0 := by
  rcases h with ⟨_, h1, ⟨f, hf, hg⟩, _⟩ | ⟨e, _⟩
  · refine ⟨h1, f, hf, ?_⟩
    unfold goesB at hg
    simp at hg
    exact hg.1
  · cases e
set_option maxHeartbeats 4000000 in
set_option maxRecDepth 100000 in
theorem found_miss {w : World} {x : Po} (h : PoAt w x) {page : Nat} (hp : page < x.pages) (hno : page ∉ (ids x.fs).map (·.1)) :
    Calls Tryz.prog 228 #[.pointer (some ⟨x.pp, 0, none⟩), .int .i64 (page : Int)] w fun e w' => (e = .returned (.tuple #[.pointer none, .int .i64 9]) ∧ x.fs.length = x.most ∧ (∀ f ∈ x.fs, f.hd ≠ 0) ∧ Fr [] w w') ∨ ∃ g x', e = .returned (.tuple #[.pointer (some ⟨g, 0, none⟩), .int .i64 0]) ∧ Step w w' x x' ∧ Missed x x' page g ∧ w.heap.size ≤ g := by
  obtain ⟨S, hS, hT⟩ := h.mp
  have hSf : S (page : Int) = none := by
    cases e : S (page : Int) with
    | none => rfl
    | some b =>
      obtain ⟨q, hq, h1, _⟩ := hT.only _ _ e
      exact absurd (List.mem_map.2 ⟨q, hq, by omega⟩) hno
  have n2 := h.lo.dev.n2
  have area := h.area
  have hwf : (Lit.int .i64 (page : Int)).wf = true := WalkArith.wf_i64 (by omega)
  have c6 := h.box.c6
  have HH := hidI h
  have HS := hidI hS
  have hkn : (x.start : Int) + (page : Int) < x.y.nb := by omega
  have hw : IntKind.i64.wrap ((x.start : Int) + (page : Int)) = (x.start : Int) + (page : Int) := wrapI _ (by omega) (by omega)
  have HPD : Hid (Dv.latest x.y.S x.y.O ((x.start : Int) + (page : Int)) = pgD x.start x.y page) := hidI rfl
  clear h hS
  go_enter Tryz.func228, Tryz.ntmps228
  go_wp2_with (refine wp_pLook rfl _ _ rfl x.mp S (page : Int) hwf rfl rfl HS.out ?_; rw [hSf]; simp only [ptV, Option.map_none, Option.isSome_none])
  refine (leaving_any HH.out).mono ?_
  rintro e w1 ⟨k, b, rfl, f1, hk⟩
  have H1 := hidI (HH.out.kept f1 (by simp))
  have b0 : w1.cell? ⟨x.pp, 0, none⟩ = some (.pointer (some ⟨x.y.d, 0, none⟩)) := H1.out.box.c0
  have b2 : w1.cell? ⟨x.pp, 2, none⟩ = some (.int .i64 (x.start : Int)) := H1.out.box.c2
  cases b with
  | false =>
    go_wp2_with fail
    go_ret2
    left
    rcases hk.out with ⟨_, _, e⟩ | ⟨h1, h2⟩
    · cases e
    · exact ⟨rfl, h1, seek_held (by have := HH.out.hh h1; omega) h2, f1⟩
  | true =>
    go_wp2_with fail
    go_region_law ((go_simp; go_at_call 170; refine (dread (dev_kept H1.out.lo.dev (Fr.refl [] w1).drew (by simp) (by simp) (by simp)) ((x.start : Int) + (page : Int)) (by omega) hkn).mono ?_; rintro e w3 ⟨gb, rfl, b3, hg3, f3⟩))
    all_goals
      have hl3 := latest_len H1.out.lo.dev ((x.start : Int) + (page : Int))
      rw [HPD.out] at b3 hl3
      have f13 : Fr [] w w3 := f1.trans ((Fr.refl [] w1).drew.trans f3)
      have B3 := hidI b3
      have HL3 := hidI hl3
      clear b3 hl3 b0 b2 c6
      go_wp2_with (first
        | (refine wp_buildF rfl _ rfl (page : Int) rfl ?_; intro V HV)
        | (refine wp_boxF rfl _ rfl page V rfl HV ?_; intro w4 g hg4 F4 f4)
        | (refine wp_copyF rfl _ _ rfl (newF g page (zs 512)) 0 512 512 (some ⟨gb, 0, none⟩) 512 512 (pgD x.start x.y page) rfl rfl F4 HL3.out (by rw [HL3.out]; omega) (B3.out.bytes.kept f4 (by simp)) (by rw [HL3.out]; omega) ?_; intro w5 F5 f5; rw [HL3.out]))
      have F5' : FAt w5 (newF g page (pgD x.start x.y page)) := by
        have h1 := F5
        have h2 : over (zs 512) 0 (pgD x.start x.y page) = pgD x.start x.y page := over_all (by rw [HL3.out, zs_length])
        rw [show (newF g page (zs 512)).l = zs 512 from rfl, h2] at h1
        exact h1
      have hgw : w.heap.size ≤ g := Nat.le_trans f13.size hg4
      have f35 : Fr [] w w5 := (f13.trans f4).then f5 (fun i hi e => by
        have h1 : i = g := by simpa [newF] using e
        omega)
      have H5 := hidI (HH.out.kept f35 (by simp))
      have S5 := HS.out.kept f35 (by simp)
      have hgo : (newF g page (pgD x.start x.y page)).b ∉ x.own := fun e => by
        have h1 := HH.out.lt g (List.mem_cons_of_mem _ e)
        omega
      have hok : FOk x.start x.pages x.y (newF g page (pgD x.start x.y page)) := ⟨hp, Int.le_refl _, by show (0 : Int) ≤ 1000000; omega, Int.le_refl _, Int.le_refl _, by show (0 : Int) ≤ (x.y.E : Int); omega, fun _ => rfl⟩
      have FN5 := hidI F5'
      clear F5' F5 F4 f3 f4 f5 f13
      have key : ∀ w6 x' S', Mid w6 x' S' → TabOk (S'.put (page : Int) g) (ids x'.fs) → x'.mp = x.mp → Fr x.own w5 w6 → (∀ i ∈ x'.own, i ∈ x.own ∨ i = g ∨ w5.heap.size ≤ i) → ∀ w7, pMap w7 x.mp (S'.put (page : Int) g) → Fr [x.mp] w6 w7 → Step w w7 x x' := by
        intro w6 x' S' hM hTT hmp fr6 ow6 w7 hm7 f7
        rw [← hmp] at hm7 f7
        refine ⟨(hM.put hm7 f7).po hTT, ?_, ?_⟩
        · exact ((f35.mono (fun _ _ e => nomatch e)).trans fr6).trans (f7.mono (fun i _ hi => by simp at hi; rw [hi, hmp]; simp [Po.own]))
        · intro i hi
          rcases ow6 i hi with h1 | h1 | h1
          · exact Or.inl h1
          · exact Or.inr (by omega)
          · exact Or.inr (Nat.le_trans f35.size h1)
      rcases hk.out with ⟨h1, rfl, _⟩ | ⟨h1, h2⟩
      · refine (enter_spare H5.out S5 h1 FN5.out hgo hno hok 0).mono ?_
        rintro e w6 ⟨rfl, a, c, M6, fr6, ow6⟩
        have d6 : w6.cell? ⟨x.pp, 6, none⟩ = some (.map (some x.mp)) := M6.box.c6
        have HM6 := hidI M6
        clear M6
        go_wp2_with (refine wp_pPut rfl _ _ _ rfl x.mp S (page : Int) g (by omega) (by omega) rfl rfl rfl HM6.out.mp ?_; intro w7 M7 f7)
        go_ret2
        refine Or.inr ⟨g, _, rfl, key w6 _ S HM6.out ?_ rfl fr6 ow6 w7 M7 f7, Or.inl ⟨h1, a, c, rfl⟩, hgw⟩
        show TabOk _ (ids (x.fs ++ [newF g page (pgD x.start x.y page)]))
        unfold ids
        rw [List.map_append]
        exact hT.add hno
      · obtain ⟨hk2, f, hf, hf0⟩ := seek_fit h2
        refine (enter_full H5.out h1 FN5.out hgo hno hok k hk2 rfl hf).mono ?_
        rintro e w6 ⟨rfl, y', S', M6, T6, hkin, hpq, hpf, hlst, fr6, ow6⟩
        have d6 : w6.cell? ⟨x.pp, 6, none⟩ = some (.map (some x.mp)) := M6.box.c6
        have HM6 := hidI M6
        clear M6
        go_wp2_with (refine wp_pPut rfl _ _ _ rfl x.mp S' (page : Int) g (by omega) (by omega) rfl rfl rfl HM6.out.mp ?_; intro w7 M7 f7)
        go_ret2
        exact Or.inr ⟨g, _, rfl, key w6 _ S' HM6.out T6 rfl fr6 ow6 w7 M7 f7, Or.inr ⟨h1, y', k, _, f, h2, rfl, hf, hf0, rfl, hkin, hpq, hpf, hlst⟩, hgw⟩
end Go.Proofs.YthajipigppndgaaGreat

namespace Go.Proofs.YthajipigppndgaaGreat
open Go.RowKit Go.Maps

/-- The frame of a page, and what the pool is then. -/
def Fnd (x x' : Po) (page : Nat) (f : Fm) : Prop :=
  (∃ j f0, x.fs[j]? = some f0 ∧ f0.pg = page ∧ f = { f0 with ask := true } ∧ x' = x.asked j f0) ∨
  (page ∉ (ids x.fs).map (·.1) ∧ Missed x x' page f.b ∧ f = newF f.b page (pgD x.start x.y page))
theorem Missed.at {x x' : Po} {page g : Nat} (h : Missed x x' page g) : ∃ j : Nat, x'.fs[j]? = some (newF g page (pgD x.start x.y page)) := by
  rcases h with ⟨_, a, c, rfl⟩ | ⟨_, y', k, j, f, _, _, hf, _, rfl, _⟩
  · exact ⟨x.fs.length, by simp [Po.added]⟩
  · refine ⟨j, ?_⟩
    show ((turnS k (x.fs.set j { f with fst := 0 }, x.hand)).1.set j _)[j]? = _
    rw [List.getElem?_set_self]
    rw [turnS_len, List.length_set]
    exact (List.getElem?_eq_some_iff.1 hf).1
theorem pg_in {fs : List Fm} {page : Nat} (h : page ∈ (ids fs).map (·.1)) : ∃ (j : Nat) (f : Fm), fs[j]? = some f ∧ f.pg = page := by
  obtain ⟨q, hq, rfl⟩ := List.mem_map.1 h
  obtain ⟨f, hf, rfl⟩ := List.mem_map.1 hq
  obtain ⟨j, hj⟩ := List.mem_iff_getElem?.1 hf
  exact ⟨j, f, hj, rfl⟩
/-- All frames are held, and the page is in none. -/
def Busy (x : Po) (page : Nat) : Prop := x.fs.length = x.most ∧ page ∉ (ids x.fs).map (·.1) ∧ ∀ f ∈ x.fs, f.hd ≠ 0
theorem found_any {w : World} {x : Po} (h : PoAt w x) {page : Nat} (hp : page < x.pages) :
    Calls Tryz.prog 228 #[.pointer (some ⟨x.pp, 0, none⟩), .int .i64 (page : Int)] w fun e w' => (e = .returned (.tuple #[.pointer none, .int .i64 9]) ∧ Busy x page ∧ Fr [] w w') ∨ ∃ (f : Fm) (x' : Po) (j : Nat), e = .returned (.tuple #[.pointer (some ⟨f.b, 0, none⟩), .int .i64 0]) ∧ Step w w' x x' ∧ Fnd x x' page f ∧ x'.fs[j]? = some f := by
  by_cases hin : page ∈ (ids x.fs).map (·.1)
  · obtain ⟨j, f, hj, rfl⟩ := pg_in hin
    refine (found_hit h hj).mono ?_
    rintro e w' ⟨he, _, _, st⟩
    exact Or.inr ⟨{ f with ask := true }, _, j, he, st, Or.inl ⟨j, f, hj, rfl, rfl, rfl⟩, by
      show (x.fs.set j _)[j]? = _
      rw [List.getElem?_set_self (List.getElem?_eq_some_iff.1 hj).1]⟩
  · refine (found_miss h hp hin).mono ?_
    rintro e w' (⟨he, h1, h2, fr⟩ | ⟨g, x', he, st, hm, _⟩)
    · exact Or.inl ⟨he, ⟨h1, hin, h2⟩, fr⟩
    · obtain ⟨j, hj⟩ := hm.at
      exact Or.inr ⟨newF g page (pgD x.start x.y page), x', j, he, st, Or.inr ⟨hin, hm, rfl⟩, hj⟩
set_option maxHeartbeats 400000 in
theorem pmade_yes {w : World} {pp : Nat} {x : Pf} (h : PBox' w pp x) : Calls Tryz.prog 96 #[.pointer (some ⟨pp, 0, none⟩)] w fun e w' => e = .returned (.bool true) ∧ w' = w := by
  have c0 := h.c0
  go_enter Tryz.func96, Tryz.ntmps96
  go_wp2
  go_ret
  exact ⟨rfl, rfl⟩
/-- No pool, or one that nobody made. -/
def NoPool (w : World) (v : Value) : Prop := v = .pointer none ∨ ∃ p, v = .pointer (some ⟨p, 0, none⟩) ∧ w.cell? ⟨p, 0, none⟩ = some (.pointer none)
/-- What every call on a page is told first. -/
def hasR (x : Pf) (k : Int) : Int := if k < 0 ∨ (x.pages : Int) ≤ k then 6 else 0
set_option maxHeartbeats 1000000 in
theorem has_any {w : World} {pp : Nat} {x : Pf} (h : PBox' w pp x) (k : Int) : Calls Tryz.prog 227 #[.pointer (some ⟨pp, 0, none⟩), .int .i64 k] w fun e w' => e = .returned (.int .i64 (hasR x k)) ∧ w' = w := by
  have c3 := h.c3
  have HB := hidI h
  unfold hasR
  by_cases h0 : k < 0
  · rw [if_pos (Or.inl h0)]
    go_enter Tryz.func227, Tryz.ntmps227
    go_wp2_with (go_at_call 96; refine (pmade_yes HB.out).mono ?_; rintro e wz ⟨rfl, hz⟩; rw [hz]; clear hz)
    go_ret
    exact ⟨rfl, rfl⟩
  · by_cases h1 : (x.pages : Int) ≤ k
    · rw [if_pos (Or.inr h1)]
      go_enter Tryz.func227, Tryz.ntmps227
      go_wp2_with (go_at_call 96; refine (pmade_yes HB.out).mono ?_; rintro e wz ⟨rfl, hz⟩; rw [hz]; clear hz)
      go_ret
      exact ⟨rfl, rfl⟩
    · rw [if_neg (by omega)]
      go_enter Tryz.func227, Tryz.ntmps227
      go_wp2_with (go_at_call 96; refine (pmade_yes HB.out).mono ?_; rintro e wz ⟨rfl, hz⟩; rw [hz]; clear hz)
      go_ret
      exact ⟨rfl, rfl⟩
set_option maxHeartbeats 1000000 in
theorem reach_any {w : World} {x : Po} (h : PoAt w x) {page : Nat} (hp : page < x.pages) :
    Calls Tryz.prog 153 #[.pointer (some ⟨x.pp, 0, none⟩), .int .i64 (page : Int)] w fun e w' => (e = .returned (.tuple #[.pointer none, .int .i64 9]) ∧ Busy x page ∧ Fr [] w w') ∨ ∃ (f : Fm) (x' : Po) (j : Nat), e = .returned (.tuple #[.pointer (some ⟨f.b, 0, none⟩), .int .i64 0]) ∧ Step w w' x x' ∧ Fnd x x' page f ∧ x'.fs[j]? = some f := by
  have HH := hidI h
  have hr : hasR x.pf (page : Int) = 0 := by
    unfold hasR
    rw [if_neg (by show ¬ ((page : Int) < 0 ∨ (x.pages : Int) ≤ (page : Int)); omega)]
  clear h
  go_enter Tryz.func153, Tryz.ntmps153
  go_wp2_with (go_at_call 227; refine (has_any HH.out.box _).mono ?_; rw [hr]; rintro e wz ⟨rfl, hz⟩; rw [hz]; clear hz)
  refine (found_any HH.out hp).mono ?_
  rintro e w' (⟨rfl, h1, h2⟩ | ⟨f, x', j, rfl, h1, h2, h3⟩)
  · go_wp2_with fail
    go_ret2
    exact Or.inl ⟨rfl, h1, h2⟩
  · go_wp2_with fail
    go_ret2
    exact Or.inr ⟨f, x', j, rfl, h1, h2, h3⟩
set_option maxHeartbeats 1000000 in
set_option maxRecDepth 100000 in
theorem read_any {w : World} {x : Po} (h : PoAt w x) {page : Nat} (hp : page < x.pages) :
    Calls Tryz.prog 83 #[.pointer (some ⟨x.pp, 0, none⟩), .int .i64 (page : Int)] w fun e w' => (e = .returned (.tuple #[.slice none 0 0, .int .i64 9]) ∧ Busy x page ∧ Fr [] w w') ∨ ∃ (f : Fm) (x' : Po) (j g : Nat), e = .returned (.tuple #[.slice (some ⟨g, 0, none⟩) 512 512, .int .i64 0]) ∧ Step w w' x x' ∧ Fnd x x' page f ∧ x'.fs[j]? = some f ∧ Blk w' g f.l ∧ w.heap.size ≤ g ∧ g ∉ x'.own := by
  have HH := hidI h
  clear h
  go_enter Tryz.func83, Tryz.ntmps83
  go_wp2_with fail
  refine (reach_any HH.out hp).mono ?_
  rintro e w' (⟨rfl, h1, h2⟩ | ⟨f, x', j, rfl, h1, h2, h3⟩)
  · go_wp2_with fail
    go_ret2
    exact Or.inl ⟨rfl, h1, h2⟩
  · have FA := hidI (h1.at'.rn.frames f (List.mem_of_getElem? h3))
    have ST := hidI h1
    clear h1
    go_wp2_with (first
      | (refine wp_make rfl _ _ rfl 512 rfl rfl (by omega) ?_; intro w1 g hg1 b1 f1)
      | (refine wp_copyB rfl _ _ rfl g 0 (some ⟨g, 0, none⟩) 512 512 (some ⟨f.b, 1, none⟩) 512 512 512 (zs 512) f.l rfl rfl b1.row FA.out.len (fun _ => rfl) ((FA.out.kept f1 (by simp)).bytes) (by rw [FA.out.len, zs_length]; omega) ?_; intro w2 r2 f2; rw [FA.out.len]))
    go_ret2
    have hl := FA.out.len
    have e1 : over (zs 512) 0 f.l = f.l := over_all (by rw [hl, zs_length])
    rw [e1] at r2
    have hb : Blk w2 g f.l := by
      obtain ⟨t, ht, hsz⟩ := r2
      have ht0 : t = [] := List.eq_nil_of_length_eq_zero (by omega)
      subst ht0
      simpa [Blk] using ht
    have hgx : g ∉ x'.own := fun e => by
      have h4 := ST.out.at'.lt g (List.mem_cons_of_mem _ e)
      omega
    have f12 : Fr [] w' w2 := f1.then f2 (fun i hi e => by simp at e; omega)
    exact Or.inr ⟨f, x', j, g, rfl, ⟨ST.out.at'.kept f12 (by simp), ST.out.fr.then f12 (fun _ _ e => nomatch e), ST.out.ow⟩, h2, h3, hb, Nat.le_trans ST.out.fr.size hg1, hgx⟩
/-- A frame whose page is changed. -/
def Fm.changed (f : Fm) (off : Nat) (l : List UInt8) (lsn : Int) : Fm := { f with l := over f.l off l, fst := if 0 < f.fst then f.fst else lsn, lst := max f.lst lsn }
set_option maxHeartbeats 1000000 in
theorem fchange_any {w : World} {f : Fm} (h : FAt w f) (off : Nat) (ad : Option Addr) (c : Nat) (l : List UInt8) (lsn : Int) (hl : 0 < l.length) (hfit : off + l.length ≤ 512) (hb : BytesAt w ad l) :
    Calls Tryz.prog 230 #[.pointer (some ⟨f.b, 0, none⟩), .int .i64 (off : Int), .slice ad l.length c, .int .i64 lsn] w fun e w' => e = .returned (.tuple #[]) ∧ FAt w' (f.changed off l lsn) ∧ Fr [f.b] w w' := by
  have q0 : (0 : Int) ≤ (off : Int) := by omega
  have q1 : (off : Int) ≤ 512 := by omega
  have q2 : ¬ 512 = off := by omega
  have HF := hidI h
  have HL : Hid (l.length = Nat.min l.length (512 - off)) := hidI (by show l.length = min l.length (512 - off); omega)
  obtain ⟨n, HN⟩ : ∃ n, Hid (l.length = n) := ⟨_, rfl⟩
  rw [HN.out]
  have HL' : Hid (l.length = Nat.min n (512 - off)) := hidI (by have := HL.out; rw [HN.out] at this ⊢; exact this)
  clear h
  by_cases hd : 0 < f.fst
  · have hdt : decide (0 < f.fst) = true := decide_eq_true hd
    have hfc : f.changed off l lsn = { { f with l := over f.l off l } with lst := max f.lst lsn } := by
      unfold Fm.changed
      rw [if_pos hd]
    rw [hfc]
    go_enter Tryz.func230, Tryz.ntmps230
    go_wp2_with (first
      | (refine wp_copyF rfl _ _ rfl f off (512 - off) (512 - off) ad n c l rfl rfl HF.out HL'.out hl hb hfit ?_; intro w2 F2 f2; have FH := hidI F2; have d5 := F2.c5; have z5 := F2.fz 516)
      | (go_at_call 242; refine (dirty_any FH.out).mono ?_; rw [show ({ f with l := over f.l off l } : Fm).fst = f.fst from rfl, hdt]; rintro e wz ⟨rfl, hz⟩; rw [hz]; clear hz))
    all_goals
      go_end0
      refine ⟨rfl, ?_, ?_⟩
      · first
          | (rw [Int.max_eq_left (by omega)]; exact FH.out.s5 _)
          | (rw [Int.max_eq_right (by omega)]; exact FH.out.s5 _)
      · exact f2.setCell _ _ (fun _ => by simp)
  · have hdt : decide (0 < f.fst) = false := decide_eq_false hd
    have hfc : f.changed off l lsn = { { { f with l := over f.l off l } with fst := lsn } with lst := max f.lst lsn } := by
      unfold Fm.changed
      rw [if_neg hd]
    rw [hfc]
    go_enter Tryz.func230, Tryz.ntmps230
    go_wp2_with (first
      | (refine wp_copyF rfl _ _ rfl f off (512 - off) (512 - off) ad n c l rfl rfl HF.out HL'.out hl hb hfit ?_; intro w2 F2 f2; have FH := hidI F2; have d4 := F2.c4; have z4 := F2.fz 515; have F3 := F2.s4 lsn; have d5 := F3.c5; have z5 := F3.fz 516; have FH3 := hidI F3)
      | (go_at_call 242; refine (dirty_any FH.out).mono ?_; rw [show ({ f with l := over f.l off l } : Fm).fst = f.fst from rfl, hdt]; rintro e wz ⟨rfl, hz⟩; rw [hz]; clear hz))
    all_goals
      go_end0
      refine ⟨rfl, ?_, ?_⟩
      · first
          | (rw [Int.max_eq_left (by omega)]; exact FH3.out.s5 _)
          | (rw [Int.max_eq_right (by omega)]; exact FH3.out.s5 _)
      · exact (f2.setCell _ _ (fun _ => by simp)).setCell _ _ (fun _ => by simp)
end Go.Proofs.YthajipigppndgaaGreat

namespace Go.Proofs.YthajipigppndgaaGreat
open Go.RowKit Go.Maps

theorem NoPool.kept {w w' : World} {v : Value} {L : List Nat} (h : NoPool w v) (f : Fr L w w') (hL : ∀ p, v = .pointer (some ⟨p, 0, none⟩) → p ∉ L) : NoPool w' v := by
  rcases h with rfl | ⟨p, rfl, h⟩
  · exact Or.inl rfl
  · refine Or.inr ⟨p, rfl, ?_⟩
    rw [← h]
    exact World.cell?_of_block (f.block p (block_lt_of_cell h) (hL p rfl))
set_option maxHeartbeats 4000000 in
theorem change_any {w : World} {x : Po} (h : PoAt w x) {page : Nat} (hp : page < x.pages) (off : Nat) (a1 : Option Addr) (n1 c1 : Nat) (ad : Option Addr) (c : Nat) (l : List UInt8) (hl : 0 < l.length) (hfit : off + l.length ≤ 512) (hb : BytesAt w ad l) (hbo : ∀ b o, ad = some ⟨b, o, none⟩ → b ∉ x.own) (lsn : Int) (hl1 : 1 ≤ lsn) (hl2 : lsn ≤ (x.y.E : Int)) :
    Calls Tryz.prog 159 #[.pointer (some ⟨x.pp, 0, none⟩), .agg #[.int .i64 (page : Int), .int .i64 (off : Int), .slice a1 n1 c1, .slice ad l.length c], .int .i64 lsn] w fun e w' => (e = .returned (.int .i64 9) ∧ Busy x page ∧ Fr [] w w') ∨ ∃ (f : Fm) (x' : Po) (j : Nat), e = .returned (.int .i64 0) ∧ Step w w' x { x' with fs := x'.fs.set j (f.changed off l lsn) } ∧ Fnd x x' page f ∧ x'.fs[j]? = some f := by
  obtain ⟨n, HN⟩ : ∃ n, Hid (l.length = n) := ⟨_, rfl⟩
  rw [HN.out]
  have fa : Fr [] w (w.alloc (.cells #[.int .i64 (page : Int), .int .i64 (off : Int), .slice a1 n1 c1, .slice ad n c] 146)) := (Fr.refl [] w).alloc _
  have hnew := hidI (heap_alloc_new w (.cells #[.int .i64 (page : Int), .int .i64 (off : Int), .slice a1 n1 c1, .slice ad n c] 146))
  have H1 := hidI (h.kept fa (by simp))
  have HB1 := hidI (hb.kept fa (by simp))
  have hr : hasR x.pf (page : Int) = 0 := by
    unfold hasR
    rw [if_neg (by show ¬ ((page : Int) < 0 ∨ (x.pages : Int) ≤ (page : Int)); omega)]
  have hnn : n ≤ 512 := by rw [← HN.out]; omega
  have q0 : ¬ (off : Int) < 0 := by omega
  have q1 : ((n : Int) == 0) = false := by rw [beq_eq_false_iff_ne]; have := HN.out; omega
  have q2 : IntKind.i64.wrap (512 - (n : Int)) = 512 - (n : Int) := wrapI _ (by omega) (by omega)
  have q3 : ¬ 512 - (n : Int) < (off : Int) := by have := HN.out; omega
  have q4 : ¬ lsn < 1 := by omega
  have q5 : ¬ (x.y.E : Int) + 1 ≤ lsn := by omega
  have b1 : (w.alloc (.cells #[.int .i64 (page : Int), .int .i64 (off : Int), .slice a1 n1 c1, .slice ad n c] 146)).cell? ⟨x.pp, 1, none⟩ = some (.pointer (some ⟨x.y.p, 0, none⟩)) := H1.out.box.c1
  have HLT := hidI h.lt
  clear h hb
  go_enter Tryz.func159, Tryz.ntmps159
  go_wp2_with (first
    | (go_at_call 227; refine (has_any H1.out.box _).mono ?_; rw [hr]; rintro e wz ⟨rfl, hz⟩; rw [hz]; clear hz)
    | (go_at_call 62; refine (lo_end H1.out.lo).mono ?_; rintro e wz ⟨rfl, hz⟩; rw [hz]; clear hz))
  refine (found_any H1.out hp).mono ?_
  rintro e w2 (⟨rfl, h1, h2⟩ | ⟨f, x', j, rfl, h1, h2, h3⟩)
  · go_wp2_with fail
    go_ret
    exact Or.inl ⟨rfl, h1, fa.trans h2⟩
  · have hns : w.heap.size ∉ x.own := fun e => by
      have := HLT.out _ (List.mem_cons_of_mem _ e)
      omega
    have s2 := h1.fr.same hns hnew.out
    have d1 := cell_of_row w2 w.heap.size 1 _ _ _ s2
    have d3 := cell_of_row w2 w.heap.size 3 _ _ _ s2
    have FA := hidI (h1.at'.rn.frames f (List.mem_of_getElem? h3))
    have HB2 := hidI (HB1.out.kept h1.fr (fun b o e => hbo b o e))
    have ST := hidI h1
    have HOK := hidI (h1.at'.ok f (List.mem_of_getElem? h3))
    clear h1
    go_wp2_with fail
    have hfc := fchange_any FA.out off ad c l lsn hl hfit HB2.out
    rw [HN.out] at hfc
    refine hfc.mono ?_
    rintro e w3 ⟨rfl, F3, f3⟩
    go_wp2_with fail
    go_ret
    have hE : x'.y.E = x.y.E := by
      rcases h2 with ⟨j0, f0, _, _, _, rfl⟩ | ⟨_, hm, _⟩
      · rfl
      · rcases hm with ⟨_, a, c, rfl⟩ | ⟨_, y', k, j, f, _, _, _, _, rfl, hk, _⟩
        · rfl
        · exact hk.E
    have hok2 : FOk x'.start x'.pages x'.y (f.changed off l lsn) := by
      have ho := HOK.out
      refine ⟨ho.pg, ho.h0, ho.h1, ?_, ?_, ?_, ?_⟩
      · show 0 ≤ (if 0 < f.fst then f.fst else lsn)
        split <;> omega
      · show 0 ≤ max f.lst lsn
        have := ho.l0
        omega
      · show max f.lst lsn ≤ (x'.y.E : Int)
        have := ho.l1
        rw [hE] at this ⊢
        omega
      · intro e
        exfalso
        have e' : (if 0 < f.fst then f.fst else lsn) = 0 := e
        split at e' <;> omega
    have st2 := Step.asked (w' := w3) ST.out.at' h3 (f' := f.changed off l lsn) rfl rfl hok2 F3 f3
    have st0 : Step w (w.alloc (.cells #[.int .i64 (page : Int), .int .i64 (off : Int), .slice a1 n1 c1, .slice ad n c] 146)) x x := ⟨H1.out, fa.mono (fun _ _ e => nomatch e), fun k hk => Or.inl hk⟩
    exact Or.inr ⟨f, x', j, rfl, (st0.trans ST.out).trans st2, h2, h3⟩
theorem pages_any {w : World} {pp : Nat} {x : Pf} (h : PBox' w pp x) : Calls Tryz.prog 43 #[.pointer (some ⟨pp, 0, none⟩)] w fun e w' => e = .returned (.int .i64 (x.pages : Int)) ∧ w' = w := by
  have c3 := h.c3
  go_enter Tryz.func43, Tryz.ntmps43
  go_wp2_with (go_at_call 96; refine (pmade_yes h).mono ?_; rintro e wz ⟨rfl, hz⟩; rw [hz]; clear hz)
  go_ret
  exact ⟨rfl, rfl⟩
set_option maxRecDepth 100000 in
theorem len64_zero (w : World) : Calls Tryz.prog 292 #[.int .u64 0] w fun e w' => ∃ k, e = .returned (.int .i64 k) ∧ w' = w := by
  go_enter Tryz.func292, Tryz.ntmps292
  go_wp2
  go_ret
  exact ⟨_, rfl, rfl⟩
end Go.Proofs.YthajipigppndgaaGreat

namespace Go.Proofs.YthajipigppndgaaGreat
open Go.RowKit Go.Maps

theorem len_zero (w : World) : Calls Tryz.prog 271 #[.int .u64 0] w fun e w' => ∃ k, e = .returned (.int .i64 k) ∧ w' = w := by
  go_enter Tryz.func271, Tryz.ntmps271
  go_wp2_with (go_at_call 292; refine (len64_zero _).mono ?_; rintro e wz ⟨k, rfl, hz⟩; rw [hz]; clear hz)
  go_ret
  exact ⟨_, rfl, rfl⟩
theorem insert_zero (w : World) (v : Value) : Calls Tryz.prog 293 #[.slice none 0 0, .int .i64 0, .int .i64 0, v] w fun e w' => e = .returned (.tuple #[]) ∧ w' = w := by
  go_enter Tryz.func293, Tryz.ntmps293
  go_wp2_with fail
  go_loopw [8, 9] (fun s8 s9 wr => s8 = .int .i64 1 ∧ wr = w ∧ s9 = s9) (fun _ _ _ => 0)
  case atStart => exact ⟨rfl, rfl, rfl⟩
  case round =>
    obtain ⟨rfl, rfl, -⟩ := hrel
    go_wp2_with fail
    go_end0
    exact ⟨rfl, rfl⟩
set_option maxHeartbeats 1000000 in
theorem pdq_zero (w : World) (k : Int) (v : Value) : Calls Tryz.prog 270 #[.slice none 0 0, .int .i64 0, .int .i64 0, .int .i64 k, v] w fun e w' => e = .returned (.tuple #[]) ∧ w' = w := by
  go_enter Tryz.func270, Tryz.ntmps270
  go_wp2_with fail
  go_loopw [1, 2] (fun s1 s2 wr => s1 = .int .i64 0 ∧ s2 = .int .i64 0 ∧ wr = w) (fun _ _ _ => 0)
  case atStart => exact ⟨rfl, rfl, rfl⟩
  case round =>
    obtain ⟨rfl, rfl, rfl⟩ := hrel
    go_wp2_with (go_at_call 293; refine (insert_zero _ _).mono ?_; rintro e wz ⟨rfl, hz⟩; rw [hz]; clear hz)
    exact bodyPost_ret (results_none Tryz.results270 _ _ _) rfl ⟨rfl, rfl⟩
theorem sort_zero (w : World) (v : Value) : Calls Tryz.prog 243 #[.slice none 0 0, v] w fun e w' => e = .returned (.tuple #[]) ∧ w' = w := by
  go_enter Tryz.func243, Tryz.ntmps243
  go_wp2_with (first
    | (go_at_call 271; refine (len_zero _).mono ?_; rintro e wz ⟨k, rfl, hz⟩; rw [hz]; clear hz)
    | (go_at_call 270; refine (pdq_zero _ _ _).mono ?_; rintro e wz ⟨rfl, hz⟩; rw [hz]; clear hz))
  go_end0
  exact ⟨rfl, rfl⟩
theorem Step.lower {w w' : World} {x : Po} (h : PoAt w x) {y' : Lo} (hy : LoAt w' y') {L : List Nat} (f : Fr L w w') (hL : ∀ k ∈ L, k ∈ x.y.own) (how : ∀ k ∈ y'.own, k ∈ x.y.own ∨ w.heap.size ≤ k)
    (hd : y'.d = x.y.d) (hp : y'.p = x.y.p) (hbs : y'.bs = x.y.bs) (hbo : y'.bo = x.y.bo) (hnb : y'.nb = x.y.nb) (hfi : y'.first = x.y.first) (hco : y'.count = x.y.count) (hE : x.y.E ≤ y'.E) (hpg : ∀ q, q < x.pages → pgD x.start y' q = pgD x.start x.y q) (hlw : y'.lw = x.y.lw) : Step w w' x { x with y := y' } := by
  obtain ⟨S, hS, hT⟩ := h.mp
  have hpf : ({ x with y := y' } : Po).pf = x.pf := by
    show Pf.mk y'.d y'.p x.start x.pages x.most x.rp x.mp = Pf.mk x.y.d x.y.p x.start x.pages x.most x.rp x.mp
    rw [hd, hp]
  refine ⟨{ lo := hy, box := ?_, rn := h.rn.kept f (fun k hk e => h.d1 k hk (hL k e)), mp := ⟨S, hS.kept f (fun e => h.d3 (hL _ e)), hT⟩, mne := ?_, nod := h.nod, ok := ?_, hl := h.hl, m0 := h.m0, m1 := h.m1, hh := h.hh, hh0 := h.hh0, p1 := h.p1, area := ?_, dis := ?_, hlw := by show y'.lw ≤ _; rw [hlw]; exact h.hlw }, ?_, ?_⟩
  · rw [hpf]
    exact h.box.kept f (fun e => h.d4 (by simp only [Po.own, List.mem_cons, List.mem_append]; exact Or.inr (Or.inr (hL _ e))))
  · show x.mp ≠ y'.bs ∧ x.mp ≠ y'.bo
    rw [hbs, hbo]
    exact h.mne
  · intro g hg
    have ho := h.ok g hg
    exact { ho with l1 := Int.le_trans ho.l1 (by show (x.y.E : Int) ≤ (y'.E : Int); omega), cl := fun h0 => by show g.l = pgD x.start y' g.pg; rw [hpg g.pg ho.pg]; exact ho.cl h0 }
  · show (x.start : Int) + (x.pages : Int) ≤ y'.nb
    rw [hnb]
    exact h.area
  · show (x.start : Int) + (x.pages : Int) ≤ y'.first ∨ y'.first + y'.count ≤ (x.start : Int)
    rw [hfi, hco]
    exact h.dis
  · exact f.mono (fun k _ hk => by simp only [Po.own, List.mem_cons, List.mem_append]; exact Or.inr (Or.inr (hL k hk)))
  · intro k hk
    have hk2 : k = x.mp ∨ k ∈ ownR x.rp x.sa x.fs ∨ k ∈ y'.own := by simpa [Po.own] using hk
    simp only [Po.own, List.mem_cons, List.mem_append]
    rcases hk2 with h1 | h1 | h1
    · exact Or.inl (Or.inl h1)
    · exact Or.inl (Or.inr (Or.inl h1))
    · rcases how k h1 with h2 | h2
      · exact Or.inl (Or.inr (Or.inr h2))
      · exact Or.inr h2
set_option maxHeartbeats 1000000 in
theorem new_ok {w : World} {y : Lo} (h : LoAt w y) (start pages most : Nat) (h1 : 1 ≤ pages) (h2 : (start : Int) + (pages : Int) ≤ y.nb) (h3 : 8 ≤ most) (h4 : most ≤ 1024) (hdis : (start : Int) + (pages : Int) ≤ y.first ∨ y.first + y.count ≤ (start : Int)) (hlw : y.lw ≤ (start : Int)) : Calls Tryz.prog 199 #[.pointer (some ⟨y.d, 0, none⟩), .pointer (some ⟨y.p, 0, none⟩), .int .i64 (start : Int), .int .i64 (pages : Int), .int .i64 (most : Int)] w fun e w' => ∃ pp rp mp, e = .returned (.pointer (some ⟨pp, 0, none⟩)) ∧ PoAt w' ⟨y, pp, rp, mp, start, pages, most, none, 0, 0, []⟩ ∧ w.heap.size ≤ pp ∧ w.heap.size ≤ rp ∧ w.heap.size ≤ mp ∧ Fr [] w w' := by
  have n1 := h.dev.n1
  have n2 := h.dev.n2
  have q0 : (y.nb == 0) = false := by rw [beq_eq_false_iff_ne]; omega
  have q1 : ((y.E : Int) + 1 == 0) = false := by rw [beq_eq_false_iff_ne]; omega
  have q2 : IntKind.i64.wrap (y.nb - (pages : Int)) = y.nb - (pages : Int) := wrapI _ (by omega) (by omega)
  have q3 : ¬ (start : Int) < 0 := by omega
  have q4 : ¬ (pages : Int) < 1 := by omega
  have q5 : ¬ y.nb - (pages : Int) < (start : Int) := by omega
  have q6 : ¬ (most : Int) < 8 := by omega
  have q7 : ¬ 1024 < (most : Int) := by omega
  have HH := hidI h
  have hmm := @run_makeMap Tryz.prog
  clear h
  go_enter Tryz.func199, Tryz.ntmps199
  go_wp2_with (first
    | (go_at_call 120; refine (Dv.blocks_dev HH.out.dev).mono ?_; rintro e wz ⟨rfl, hz⟩; rw [hz]; clear hz)
    | (go_at_call 62; refine (lo_end HH.out).mono ?_; rintro e wz ⟨rfl, hz⟩; rw [hz]; clear hz))
  go_ret
  obtain ⟨V1, HV1⟩ : ∃ V1, Hid (V1 = Obj.cells #[Value.slice none 0 0, Value.int IntKind.i64 0] 315) := ⟨_, rfl⟩
  obtain ⟨V3, HV3⟩ : ∃ V3, Hid (V3 = Obj.cells #[.pointer (some ⟨y.d, 0, none⟩), .pointer (some ⟨y.p, 0, none⟩), .int .i64 (start : Int), .int .i64 (pages : Int), .int .i64 (most : Int), .pointer (some ⟨w.heap.size, 0, none⟩), .map (some (w.heap.size + 1))] 140) := ⟨_, rfl⟩
  refine ⟨w.heap.size + 2, w.heap.size, w.heap.size + 1, rfl, ?_, by omega, Nat.le_refl _, by omega, (((Fr.refl _ _).alloc _).alloc _).alloc _⟩
  have a1 := heap_alloc_new w (Obj.cells #[Value.slice none 0 0, Value.int IntKind.i64 0] 315)
  have f1 : Fr [] w (w.alloc (Obj.cells #[Value.slice none 0 0, Value.int IntKind.i64 0] 315)) := (Fr.refl [] w).alloc _
  have s1 : (w.alloc (Obj.cells #[Value.slice none 0 0, Value.int IntKind.i64 0] 315)).heap.size = w.heap.size + 1 := by simp
  generalize w.alloc (Obj.cells #[Value.slice none 0 0, Value.int IntKind.i64 0] 315) = w1 at a1 f1 s1 ⊢
  have t2 := pMap.made w1
  rw [s1] at t2
  have f2 : Fr [] w1 (w1.alloc (.map #[] 0)) := (Fr.refl [] w1).alloc _
  have s2 : (w1.alloc (.map #[] 0)).heap.size = w.heap.size + 2 := by simp [s1]
  generalize w1.alloc (.map #[] 0) = w2 at t2 f2 s2 ⊢
  have a3 := heap_alloc_new w2 (.cells #[.pointer (some ⟨y.d, 0, none⟩), .pointer (some ⟨y.p, 0, none⟩), .int .i64 (start : Int), .int .i64 (pages : Int), .int .i64 (most : Int), .pointer (some ⟨w.heap.size, 0, none⟩), .map (some (w.heap.size + 1))] 140)
  have f3 : Fr [] w2 (w2.alloc (.cells #[.pointer (some ⟨y.d, 0, none⟩), .pointer (some ⟨y.p, 0, none⟩), .int .i64 (start : Int), .int .i64 (pages : Int), .int .i64 (most : Int), .pointer (some ⟨w.heap.size, 0, none⟩), .map (some (w.heap.size + 1))] 140)) := (Fr.refl [] w2).alloc _
  rw [s2] at a3
  generalize w2.alloc (.cells #[.pointer (some ⟨y.d, 0, none⟩), .pointer (some ⟨y.p, 0, none⟩), .int .i64 (start : Int), .int .i64 (pages : Int), .int .i64 (most : Int), .pointer (some ⟨w.heap.size, 0, none⟩), .map (some (w.heap.size + 1))] 140) = w3 at a3 f3 ⊢
  have hlt := HH.out.dev.lt
  exact { lo := HH.out.kept ((f1.trans f2).trans f3) (by simp), box := a3, rn := ⟨(f2.trans f3).same (by simp) a1, ⟨by simp [slV], Or.inl ⟨rfl, rfl⟩⟩, fun f hf => (nomatch hf), by simp⟩, mp := ⟨_, t2.kept f3 (by simp), ⟨fun q hq => (nomatch hq), fun k b hk => (nomatch hk)⟩⟩, mne := ⟨by show w.heap.size + 1 ≠ y.bs; omega, by show w.heap.size + 1 ≠ y.bo; omega⟩, nod := by simp [ids], ok := fun f hf => (nomatch hf), hl := by show 0 ≤ most; omega, m0 := h3, m1 := h4, hh := fun e => by have e' : 0 = most := e; omega, hh0 := fun _ => rfl, p1 := h1, area := h2, dis := hdis, hlw := hlw }
end Go.Proofs.YthajipigppndgaaGreat

