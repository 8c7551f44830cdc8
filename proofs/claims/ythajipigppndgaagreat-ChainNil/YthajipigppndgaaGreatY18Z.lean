/-
  A frame put into the ring in the place of one that goes.
-/
import Derived.Test.YthajipigppndgaaGreatY17Z
namespace Go.Proofs.YthajipigppndgaaGreat
open Go.RowKit Go.Maps

def Po.saved (x : Po) (y' : Lo) (j : Nat) (f : Fm) : Po := { x with y := y', fs := x.fs.set j { f with fst := 0 } }
theorem ids_set {fs : List Fm} {j : Nat} {f f' : Fm} (h : fs[j]? = some f) (hp : f'.pg = f.pg) (hb : f'.b = f.b) : ids (fs.set j f') = ids fs := by
  unfold ids
  rw [List.map_set]
  exact set_same (by simp [h, hp, hb])
theorem pg_ne {fs : List Fm} (h : ((ids fs).map (·.1)).Nodup) {i j : Nat} {x f : Fm} (hx : fs[i]? = some x) (hf : fs[j]? = some f) (hij : i ≠ j) : x.pg ≠ f.pg := by
  have h1 : ∀ i j : Nat, i < j → ∀ x f : Fm, fs[i]? = some x → fs[j]? = some f → x.pg ≠ f.pg := by
    intro i j hlt x f hx hf
    obtain ⟨hi, rfl⟩ := List.getElem?_eq_some_iff.1 hx
    obtain ⟨hj, rfl⟩ := List.getElem?_eq_some_iff.1 hf
    have := List.pairwise_iff_getElem.1 h i j (by simpa [ids] using hi) (by simpa [ids] using hj) hlt
    simpa [ids] using this
  rcases Nat.lt_or_gt_of_ne hij with h2 | h2
  · exact h1 i j h2 x f hx hf
  · exact (h1 j i h2 f x hf hx).symm
theorem own_b {x : Po} {j : Nat} {f : Fm} (h : x.fs[j]? = some f) : f.b ∈ x.own := by
  simp only [Po.own, ownR, List.mem_cons, List.mem_append, List.mem_map]
  exact Or.inr (Or.inl (Or.inr (Or.inr ⟨f, List.mem_of_getElem? h, rfl⟩)))
theorem ownR_set {rp : Nat} {sa : Option Addr} {fs : List Fm} {j : Nat} {f f' : Fm} (h : fs[j]? = some f) (hb : f'.b = f.b) : ownR rp sa (fs.set j f') = ownR rp sa fs := by
  unfold ownR
  rw [map_b h hb]
set_option maxHeartbeats 2000000 in
theorem save_any {w : World} {x : Po} (h : PoAt w x) {j : Nat} {f : Fm} (hj : x.fs[j]? = some f) :
    Calls Tryz.prog 284 #[.pointer (some ⟨x.pp, 0, none⟩), .pointer (some ⟨f.b, 0, none⟩)] w fun e w' => e = .returned (.int .i64 0) ∧ ∃ y', Step w w' x (x.saved y' j f) ∧ Kin x.y y' ∧ (∀ q, q < x.pages → q ≠ f.pg → pgD x.start y' q = pgD x.start x.y q) ∧ pgD x.start y' f.pg = f.l ∧ (0 < f.fst → f.lst ≤ (y'.P : Int)) := by
  have hm := List.mem_of_getElem? hj
  have hfa := h.rn.frames f hm
  have hok := h.ok f hm
  have HH := hidI h
  have HFA := hidI hfa
  by_cases hd : 0 < f.fst
  · have hdt : decide (0 < f.fst) = true := decide_eq_true hd
    have fa : Fr [] w (w.alloc (.cells #[.pointer (some ⟨f.b, 0, none⟩)] 195)) := (Fr.refl [] w).alloc _
    have hnew := hidI (heap_alloc_new w (.cells #[.pointer (some ⟨f.b, 0, none⟩)] 195))
    have H1 := hidI (h.kept fa (by simp))
    have FA1 := hidI (hfa.kept fa (by simp))
    clear h hfa
    go_enter Tryz.func284, Tryz.ntmps284
    go_wp2_with (go_at_call 242; refine (dirty_any HFA.out).mono ?_; rw [hdt]; rintro e wz ⟨rfl, hz⟩; rw [hz]; clear hz)
    generalize w.alloc (.cells #[.pointer (some ⟨f.b, 0, none⟩)] 195) = w1 at fa hnew H1 FA1 ⊢
    refine (cover_any H1.out.box H1.out.lo rfl (some ⟨w.heap.size, 0, none⟩) 1 1 [f] rfl (by omega) (fun i g hg => ?_) (fun g hg => ?_)).mono ?_
    · cases i with
      | zero =>
        simp at hg
        subst hg
        exact ⟨_, rfl, cell_of_row w1 _ 0 _ _ _ hnew.out⟩
      | succ i => simp at hg
    · simp at hg
      subst hg
      exact ⟨FA1.out, hok.l1⟩
    · rintro e w2 ⟨rfl, y', L2, FO, hP, hown, f2⟩
      have hL4 : ∀ k ∈ [x.y.p, x.y.d, x.y.bs, x.y.bo], k ∈ x.y.own := by
        intro k hk
        simp only [Lo.own, List.mem_append]
        exact Or.inl hk
      have B2 := H1.out.box.kept f2 (fun e => H1.out.d4 (by simp only [Po.own, List.mem_cons, List.mem_append]; exact Or.inr (Or.inr (hL4 _ e))))
      have hfo : f.b ∈ ownR x.rp x.sa x.fs := by simp only [ownR, List.mem_cons, List.mem_append, List.mem_map]; exact Or.inr (Or.inr ⟨f, hm, rfl⟩)
      have F2 := FA1.out.kept f2 (fun e => H1.out.d1 _ hfo (hL4 _ e))
      have R2 := H1.out.rn.kept f2 (fun k hk e => H1.out.d1 k hk (hL4 _ e))
      have D2 : Dv.Dev w2 x.pf.d y'.bs y'.bo y'.nb 0 false y'.S y'.O := by rw [show x.pf.d = y'.d from FO.d.symm]; exact L2.dev
      have hkn : (x.pf.start : Int) + (f.pg : Int) < y'.nb := by
        have h1 := H1.out.area
        have h2 := hok.pg
        rw [FO.nb]
        show (x.start : Int) + (f.pg : Int) < x.y.nb
        omega
      have M2 : ∃ S, pMap w2 x.mp S ∧ TabOk S (ids x.fs) := by
        obtain ⟨S, hm2, ht⟩ := H1.out.mp
        exact ⟨S, hm2.kept f2 (fun e => H1.out.d3 (hL4 _ e)), ht⟩
      have HL2 := hidI L2
      have HR2 := hidI R2
      have HB2 := hidI B2
      have HD2 := hidI D2
      have HF2 := hidI F2
      clear L2 R2 D2 F2 B2
      go_wp2_with fail
      refine (pwrite_any HB2.out HD2.out HF2.out hkn).mono ?_
      rintro e w3 ⟨rfl, D3, F3, f3⟩
      go_wp2_with fail
      go_ret
      have hbo : ∀ S, pMap w2 x.mp S → x.mp ∉ [x.pf.d, y'.bo, f.b] := by
        intro S hS e
        simp only [List.mem_cons, List.not_mem_nil, or_false] at e
        rcases e with e | e | e
        · have h1 := HD2.out.cells
          rw [← e] at h1
          exact hS.notcells _ _ h1
        · rw [FO.bo] at e
          exact H1.out.mne.2 e
        · have h1 := HF2.out.at'
          rw [← e] at h1
          exact hS.notcells _ _ h1
      have hty : ∀ (t : TypeId), t ≠ 168 → t ≠ 200 → ∀ g ∈ [x.pf.d, y'.bo, f.b], ∀ cur t', w2.heap[g]? = some (.cells cur t') → t' ≠ t := by
        intro t h1 h2 g hg cur t' e et
        subst et
        simp only [List.mem_cons, List.not_mem_nil, or_false] at hg
        rcases hg with rfl | rfl | rfl
        · rw [HD2.out.cells] at e
          cases e
          exact h1 rfl
        · obtain ⟨D', ⟨es, clock, hb, _⟩, _⟩ := HD2.out.opn
          rw [hb] at e
          cases e
        · rw [HF2.out.at'] at e
          cases e
          exact h2 rfl
      have nin : ∀ k cur t, w2.heap[k]? = some (.cells cur t) → t ≠ 168 → t ≠ 200 → k ∉ [x.pf.d, y'.bo, f.b] := fun k cur t hc h1 h2 hk => hty t h1 h2 k hk cur t hc rfl
      refine ⟨rfl, { y' with O := Dv.Tab.put y'.O ((x.start : Int) + (f.pg : Int)) f.l }, ⟨?_, ?_, ?_⟩, ?_, ?_, ?_, ?_⟩
      · have L2 := HL2.out
        have LO : LoAt w3 { y' with O := Dv.Tab.put y'.O ((x.start : Int) + (f.pg : Int)) f.l } :=
          { L2 with
            dev := by
              have h1 := D3
              rw [show x.pf.d = y'.d from FO.d.symm] at h1
              exact h1
            box := L2.box.kept f3 (nin _ _ _ L2.box (by decide) (by decide))
            bsA := own0_kept L2.bsA f3 (hty 5 (by decide) (by decide))
            lsA := own0_kept L2.lsA f3 (hty 2 (by decide) (by decide)) }
        have hrn : ∀ k ∈ ownR x.rp x.sa x.fs, k ≠ f.b → k ∉ [x.pf.d, y'.bo, f.b] := by
          intro k hk hne e
          simp only [List.mem_cons, List.not_mem_nil, or_false] at e
          obtain ⟨cur, t, hc, ht⟩ := HR2.out.types k hk
          rcases e with e | e | e
          · rw [e, HD2.out.cells] at hc
            cases hc
            exact absurd ht (by decide)
          · obtain ⟨D', ⟨es, clock, hb, _⟩, _⟩ := HD2.out.opn
            rw [e, hb] at hc
            cases hc
          · exact hne e
        have hk' := FO.kin
        refine { lo := LO, box := ?_, rn := HR2.out.setF' hj rfl F3 f3 hrn, mp := ?_, mne := ?_, nod := ?_, ok := ?_, hl := ?_, m0 := H1.out.m0, m1 := H1.out.m1, hh := ?_, hh0 := ?_, p1 := H1.out.p1, area := ?_, dis := ?_, hlw := by show y'.lw ≤ _; rw [FO.lw]; exact H1.out.hlw }
        · have h1 : PBox' w3 x.pp x.pf := HB2.out.kept f3 (nin _ _ _ HB2.out (by decide) (by decide))
          have h2 : (x.saved { y' with O := Dv.Tab.put y'.O ((x.start : Int) + (f.pg : Int)) f.l } j f).pf = x.pf := by
            show Pf.mk y'.d y'.p x.start x.pages x.most x.rp x.mp = Pf.mk x.y.d x.y.p x.start x.pages x.most x.rp x.mp
            rw [FO.d, FO.p]
          show PBox' w3 x.pp _
          rw [h2]
          exact h1
        · obtain ⟨S, hm2, ht⟩ := M2
          exact ⟨S, hm2.kept f3 (hbo S hm2), by show TabOk S (ids (x.fs.set j { f with fst := 0 })); rw [ids_set (f' := { f with fst := 0 }) hj rfl rfl]; exact ht⟩
        · show x.mp ≠ y'.bs ∧ x.mp ≠ y'.bo
          rw [FO.bs, FO.bo]
          exact H1.out.mne
        · show ((ids (x.fs.set j { f with fst := 0 })).map (·.1)).Nodup
          rw [ids_set (f' := { f with fst := 0 }) hj rfl rfl]
          exact H1.out.nod
        · intro g hg
          rcases mem_set hj hg with rfl | ⟨i, hi, hgi⟩
          · exact ⟨hok.pg, hok.h0, hok.h1, Int.le_refl _, hok.l0, by show f.lst ≤ (y'.E : Int); rw [FO.E]; exact hok.l1, fun _ => by show f.l = Dv.latest y'.S (Dv.Tab.put y'.O ((x.start : Int) + (f.pg : Int)) f.l) ((x.start : Int) + (f.pg : Int)); rw [latest_put, if_pos rfl]⟩
          · have hgo := H1.out.ok g (List.mem_of_getElem? hgi)
            have hne := pg_ne H1.out.nod hgi hj hi
            refine hgo.turn (hk'.put (by have := H1.out.hlw; omega)) ?_
            show Dv.latest y'.S (Dv.Tab.put y'.O ((x.start : Int) + (f.pg : Int)) f.l) ((x.start : Int) + (g.pg : Int)) = _
            rw [latest_put, if_neg (by omega)]
            exact FO.pg H1.out.dis hgo.pg
        · show (x.fs.set j _).length ≤ x.most
          rw [List.length_set]
          exact H1.out.hl
        · show (x.fs.set j _).length = x.most → _
          rw [List.length_set]
          exact H1.out.hh
        · show (x.fs.set j _).length < x.most → _
          rw [List.length_set]
          exact H1.out.hh0
        · show (x.start : Int) + (x.pages : Int) ≤ y'.nb
          rw [FO.nb]
          exact H1.out.area
        · show (x.start : Int) + (x.pages : Int) ≤ y'.first ∨ y'.first + y'.count ≤ (x.start : Int)
          rw [FO.first, FO.count]
          exact H1.out.dis
      · have q1 : Fr x.own w w1 := fa.mono (fun _ _ e => nomatch e)
        have q2 : Fr x.own w1 w2 := f2.mono (fun k _ hk => by simp only [Po.own, List.mem_cons, List.mem_append]; exact Or.inr (Or.inr (hL4 _ hk)))
        have q3 : Fr x.own w2 w3 := f3.mono (fun k _ hk => by
          simp only [List.mem_cons, List.not_mem_nil, or_false] at hk
          rcases hk with rfl | rfl | rfl
          · simp only [Po.own, List.mem_cons, List.mem_append]
            exact Or.inr (Or.inr (hL4 _ (by simp [Po.pf])))
          · rw [FO.bo]
            simp only [Po.own, List.mem_cons, List.mem_append]
            exact Or.inr (Or.inr (hL4 _ (by simp)))
          · exact own_b hj)
        exact (q1.trans q2).trans q3
      · intro k hk
        have hk2 : k = x.mp ∨ k ∈ ownR x.rp x.sa (x.fs.set j { f with fst := 0 }) ∨ k ∈ y'.own := by
          simpa [Po.own, Po.saved, Lo.own] using hk
        rw [ownR_set (f' := { f with fst := 0 }) hj rfl] at hk2
        simp only [Po.own, List.mem_cons, List.mem_append]
        rcases hk2 with h1 | h1 | h1
        · exact Or.inl (Or.inl h1)
        · exact Or.inl (Or.inr (Or.inl h1))
        · rcases hown k h1 with h2 | h2
          · exact Or.inl (Or.inr (Or.inr h2))
          · exact Or.inr (Nat.le_trans fa.size h2)
      · have hk' := FO.kin
        exact hk'.put (by have := H1.out.hlw; omega)
      · intro q hq hne
        show Dv.latest y'.S (Dv.Tab.put y'.O ((x.start : Int) + (f.pg : Int)) f.l) ((x.start : Int) + (q : Int)) = _
        rw [latest_put, if_neg (by omega)]
        exact FO.pg H1.out.dis hq
      · show Dv.latest y'.S (Dv.Tab.put y'.O ((x.start : Int) + (f.pg : Int)) f.l) ((x.start : Int) + (f.pg : Int)) = f.l
        rw [latest_put, if_pos rfl]
      · intro _
        exact hP f (by simp)
  · have hdt : decide (0 < f.fst) = false := decide_eq_false hd
    have h0 : f.fst = 0 := by have := hok.f0; omega
    have e1 : x.saved x.y j f = x := by
      have : { f with fst := 0 } = f := by rw [← h0]
      unfold Po.saved
      rw [this, set_same hj]
    clear h hfa
    go_enter Tryz.func284, Tryz.ntmps284
    go_wp2_with (go_at_call 242; refine (dirty_any HFA.out).mono ?_; rw [hdt]; rintro e wz ⟨rfl, hz⟩; rw [hz]; clear hz)
    go_ret
    exact ⟨rfl, x.y, by rw [e1]; exact ⟨HH.out, Fr.refl _ _, fun k hk => Or.inl hk⟩, Kin.refl _, fun _ _ _ => rfl, (hok.cl h0).symm, fun h1 => by omega⟩
end Go.Proofs.YthajipigppndgaaGreat

namespace Go.Proofs.YthajipigppndgaaGreat
open Go.RowKit Go.Maps

set_option maxHeartbeats 1000000 in
theorem leaving_any {w : World} {x : Po} (h : PoAt w x) :
    Calls Tryz.prog 259 #[.pointer (some ⟨x.pp, 0, none⟩)] w fun e w' => ∃ (k : Nat) (b : Bool), e = .returned (.tuple #[.int .i64 (k : Int), .bool b]) ∧ Fr [] w w' ∧ Hid ((x.fs.length < x.most ∧ k = 0 ∧ b = true) ∨ (x.fs.length = x.most ∧ seekTo x.fs x.hand k b)) := by
  have c5 := h.box.c5
  have HH := hidI h
  have hl := h.hl
  have m0 := h.m0
  have m1 := h.m1
  clear h
  by_cases hs : x.fs.length < x.most
  · have hdt : decide (x.fs.length < x.pf.most) = true := decide_eq_true hs
    go_enter Tryz.func259, Tryz.ntmps259
    go_wp2_with (go_at_call 280; refine (spare_any HH.out.box HH.out.rn).mono ?_; rw [hdt]; rintro e w1 ⟨nq, rfl, hz⟩; rw [hz]; clear hz)
    go_ret2
    exact ⟨0, true, rfl, (Fr.refl _ _).drewN nq, hidI (Or.inl ⟨hs, rfl, rfl⟩)⟩
  · have hdt : decide (x.fs.length < x.pf.most) = false := decide_eq_false hs
    have he : x.fs.length = x.most := by omega
    have HR1 : Hid (∀ nq, Rn (w.drewN nq) x.rp x.sa x.sc x.hand x.fs) := hidI (fun nq => HH.out.rn.kept ((Fr.refl [] w).drewN nq) (by simp))
    have HB1 : Hid (∀ nq, (w.drewN nq).cell? ⟨x.pp, 5, none⟩ = some (.pointer (some ⟨x.rp, 0, none⟩))) := hidI (fun nq => (HH.out.box.kept ((Fr.refl [] w).drewN nq) (by simp)).c5)
    go_enter Tryz.func259, Tryz.ntmps259
    go_wp2_with (go_at_call 280; refine (spare_any HH.out.box HH.out.rn).mono ?_; rw [hdt]; rintro e w1 ⟨nq, rfl, hz⟩; have d5 := HB1.out nq; have R1 := hidI (HR1.out nq); have f1 := (Fr.refl [] w).drewN nq; rw [← hz] at d5 R1 f1; clear hz)
    refine (seek_any R1.out (by omega) (by omega) (by have := HH.out.hh he; omega)).mono ?_
    rintro e w2 ⟨k, b, rfl, hk, f2⟩
    go_wp2_with fail
    go_ret2
    exact ⟨k, b, rfl, f1.trans f2, hidI (Or.inr ⟨he, hk⟩)⟩
/-- A pool as it is while a frame goes in: the map says not yet what it will. -/
structure Mid (w : World) (x : Po) (S : PTab) : Prop where
  lo : LoAt w x.y
  box : PBox' w x.pp x.pf
  rn : Rn w x.rp x.sa x.sc x.hand x.fs
  mp : pMap w x.mp S
  mne : x.mp ≠ x.y.bs ∧ x.mp ≠ x.y.bo
  nod : ((ids x.fs).map (·.1)).Nodup
  ok : ∀ f ∈ x.fs, FOk x.start x.pages x.y f
  hl : x.fs.length ≤ x.most
  m0 : 8 ≤ x.most
  m1 : x.most ≤ 1024
  hh : x.fs.length = x.most → x.hand < x.most
  hh0 : x.fs.length < x.most → x.hand = 0
  p1 : 1 ≤ x.pages
  area : (x.start : Int) + (x.pages : Int) ≤ x.y.nb
  dis : (x.start : Int) + (x.pages : Int) ≤ x.y.first ∨ x.y.first + x.y.count ≤ (x.start : Int)
  hlw : x.y.lw ≤ (x.start : Int)
theorem Mid.po {w : World} {x : Po} {S : PTab} (h : Mid w x S) (ht : TabOk S (ids x.fs)) : PoAt w x :=
  ⟨h.lo, h.box, h.rn, ⟨S, h.mp, ht⟩, h.mne, h.nod, h.ok, h.hl, h.m0, h.m1, h.hh, h.hh0, h.p1, h.area, h.dis, h.hlw⟩
theorem TabOk.add {S : PTab} {l : List (Nat × Nat)} (h : TabOk S l) {pg b : Nat} (hp : pg ∉ l.map (·.1)) : TabOk (S.put (pg : Int) b) (l ++ [(pg, b)]) := by
  refine ⟨fun q hq => ?_, fun k c hk => ?_⟩
  · rcases List.mem_append.1 hq with hq | hq
    · have hne : (q.1 : Int) ≠ (pg : Int) := fun e => hp (List.mem_map.2 ⟨q, hq, by omega⟩)
      unfold PTab.put
      rw [if_neg hne]
      exact h.has q hq
    · simp at hq
      subst hq
      simp [PTab.put]
  · unfold PTab.put at hk
    split at hk
    · rename_i e
      cases hk
      exact ⟨(pg, b), by simp, e.symm, rfl⟩
    · obtain ⟨q, hq, r⟩ := h.only k c hk
      exact ⟨q, List.mem_append_left _ hq, r⟩
theorem TabOk.swap {S : PTab} {l : List (Nat × Nat)} (h : TabOk S l) (hn : (l.map (·.1)).Nodup) {j pg0 b0 pg b : Nat} (hj : l[j]? = some (pg0, b0)) (hp : pg ∉ l.map (·.1)) : TabOk ((S.del (pg0 : Int)).put (pg : Int) b) (l.set j (pg, b)) := by
  have hjl := (List.getElem?_eq_some_iff.1 hj).1
  have hne : ∀ i q, i ≠ j → l[i]? = some q → q.1 ≠ pg0 := by
    intro i q hi hq e
    obtain ⟨hi', rfl⟩ := List.getElem?_eq_some_iff.1 hq
    have hj2 := (List.getElem?_eq_some_iff.1 hj).2
    have key : ∀ a c (ha : a < l.length) (hc : c < l.length), a < c → l[a].1 ≠ l[c].1 := by
      intro a c ha hc hac
      have := List.pairwise_iff_getElem.1 hn a c (by simpa using ha) (by simpa using hc) hac
      simpa using this
    rcases Nat.lt_or_gt_of_ne hi with h1 | h1
    · exact key i j hi' hjl h1 (by rw [e, hj2])
    · exact key j i hjl hi' h1 (by rw [e, hj2])
  refine ⟨fun q hq => ?_, fun k c hk => ?_⟩
  · obtain ⟨i, hi⟩ := List.mem_iff_getElem?.1 hq
    by_cases e : i = j
    · subst e
      rw [List.getElem?_set_self hjl] at hi
      cases hi
      simp [PTab.put]
    · rw [List.getElem?_set_ne (Ne.symm e)] at hi
      have h1 := hne i q e hi
      have h2 : (q.1 : Int) ≠ (pg : Int) := fun e => hp (List.mem_map.2 ⟨q, List.mem_of_getElem? hi, by omega⟩)
      unfold PTab.put PTab.del
      rw [if_neg h2, if_neg (by omega)]
      exact h.has q (List.mem_of_getElem? hi)
  · unfold PTab.put PTab.del at hk
    split at hk
    · rename_i e
      cases hk
      exact ⟨(pg, b), List.mem_of_getElem? (by rw [List.getElem?_set_self hjl]), e.symm, rfl⟩
    · split at hk
      · cases hk
      · rename_i e1 e2
        obtain ⟨q, hq, r1, r2⟩ := h.only k c hk
        obtain ⟨i, hi⟩ := List.mem_iff_getElem?.1 hq
        have hij : i ≠ j := by
          intro e
          subst e
          rw [hj] at hi
          cases hi
          exact e2 r1.symm
        exact ⟨q, List.mem_of_getElem? (by rw [List.getElem?_set_ne (Ne.symm hij)]; exact hi), r1, r2⟩
theorem turnS_ids (k : Nat) (s : List Fm × Nat) : ids (turnS k s).1 = ids s.1 := by
  induction k with
  | zero => rfl
  | succ k ih =>
    rw [turnS, ← ih]
    unfold stepS
    cases h : (turnS k s).1[(turnS k s).2]? with
    | none => rfl
    | some f => exact ids_set h rfl rfl
theorem turnS_at (k : Nat) (s : List Fm × Nat) : ∀ (i : Nat) (g : Fm), (turnS k s).1[i]? = some g → ∃ g' : Fm, s.1[i]? = some g' ∧ (g = g' ∨ g = offF g') := by
  induction k with
  | zero => exact fun i g hg => ⟨g, hg, Or.inl rfl⟩
  | succ k ih =>
    intro i g hg
    rw [turnS, stepS] at hg
    cases h : (turnS k s).1[(turnS k s).2]? with
    | none =>
      simp only [h] at hg
      exact ih i g hg
    | some f =>
      simp only [h] at hg
      by_cases e : i = (turnS k s).2
      · subst e
        rw [List.getElem?_set_self (List.getElem?_eq_some_iff.1 h).1] at hg
        cases hg
        obtain ⟨g', h1, h2⟩ := ih _ f h
        refine ⟨g', h1, Or.inr ?_⟩
        rcases h2 with rfl | rfl <;> rfl
      · rw [List.getElem?_set_ne (Ne.symm e)] at hg
        exact ih i g hg
theorem turnS_hand_eq (k : Nat) (s : List Fm × Nat) (h : s.2 < s.1.length) : (turnS k s).2 = (s.2 + k) % s.1.length := by
  induction k with
  | zero => exact (Nat.mod_eq_of_lt h).symm
  | succ k ih =>
    rw [turnS, stepS]
    show ((turnS k s).2 + 1) % (turnS k s).1.length = _
    rw [turnS_len, ih, Nat.mod_add_mod, Nat.add_assoc]
theorem FOk.off {start pages : Nat} {y : Lo} {f : Fm} (h : FOk start pages y f) : FOk start pages y (offF f) := ⟨h.pg, h.h0, h.h1, h.f0, h.l0, h.l1, h.cl⟩
def Po.added (x : Po) (g c : Nat) (nf : Fm) : Po := { x with sa := some ⟨g, 0, none⟩, sc := c, fs := x.fs ++ [nf] }
theorem ownR_mem {rp : Nat} {sa : Option Addr} {fs : List Fm} {k : Nat} : k ∈ ownR rp sa fs ↔ k = rp ∨ k ∈ (sa.map (·.block)).toList ∨ ∃ f ∈ fs, f.b = k := by simp [ownR]
theorem NewOr.own {sa : Option Addr} {n c g z : Nat} (h : NewOr sa n c g z) : g ∈ (sa.map (·.block)).toList ∨ z ≤ g := by
  rcases h with h | h
  · cases sa with
    | none => simp [Value.ownBlock] at h
    | some a =>
      simp [Value.ownBlock] at h
      left
      simp [h]
  · exact Or.inr h
theorem ownBlock_mem {sa : Option Addr} {n c g : Nat} (h : g ∈ (Value.ownBlock (.slice sa n c)).toList) : g ∈ (sa.map (·.block)).toList := by
  cases sa with
  | none => simp [Value.ownBlock] at h
  | some a => simpa [Value.ownBlock] using h
set_option maxHeartbeats 2000000 in
theorem enter_spare {w : World} {x : Po} (h : PoAt w x) {S : PTab} (hS : pMap w x.mp S) (hs : x.fs.length < x.most) {nf : Fm} (hf : FAt w nf) (hb : nf.b ∉ x.own) (hpg : nf.pg ∉ (ids x.fs).map (·.1)) (hok : FOk x.start x.pages x.y nf) (k : Nat) :
    Calls Tryz.prog 260 #[.pointer (some ⟨x.pp, 0, none⟩), .pointer (some ⟨nf.b, 0, none⟩), .int .i64 (k : Int)] w fun e w' => e = .returned (.int .i64 0) ∧ ∃ g c, Mid w' (x.added g c nf) S ∧ Fr x.own w w' ∧ (∀ i ∈ (x.added g c nf).own, i ∈ x.own ∨ i = nf.b ∨ w.heap.size ≤ i) := by
  have hdt : decide (x.fs.length < x.pf.most) = true := decide_eq_true hs
  have HH := hidI h
  have HS := hidI hS
  have HF := hidI hf
  have HR1 : Hid (∀ nq, Rn (w.drewN nq) x.rp x.sa x.sc x.hand x.fs) := hidI (fun nq => HH.out.rn.kept ((Fr.refl [] w).drewN nq) (by simp))
  have HB1 : Hid (∀ nq, (w.drewN nq).cell? ⟨x.pp, 5, none⟩ = some (.pointer (some ⟨x.rp, 0, none⟩))) := hidI (fun nq => (HH.out.box.kept ((Fr.refl [] w).drewN nq) (by simp)).c5)
  have hbn : nf.b ∉ x.fs.map (·.b) := fun e => hb (by simp only [Po.own, ownR, List.mem_cons, List.mem_append]; exact Or.inr (Or.inl (Or.inr (Or.inr e))))
  have m1 := h.m1
  clear h hS hf
  go_enter Tryz.func260, Tryz.ntmps260
  go_wp2_with (go_at_call 280; refine (spare_any HH.out.box HH.out.rn).mono ?_; rw [hdt]; rintro e w1 ⟨nq, rfl, hz⟩; have d5 := HB1.out nq; have R1 := hidI (HR1.out nq); have f1 := (Fr.refl [] w).drewN nq; rw [← hz] at d5 R1 f1; clear hz)
  refine (add_any R1.out (by omega) (HF.out.kept f1 (by simp)) hbn).mono ?_
  rintro e w2 ⟨rfl, g, c, R2, hnew, f2⟩
  go_wp2_with fail
  go_ret
  have hL : ∀ i ∈ x.rp :: (Value.ownBlock (.slice x.sa x.fs.length x.sc)).toList, i ∈ ownR x.rp x.sa x.fs := by
    intro i hi
    rw [ownR_mem]
    rcases List.mem_cons.1 hi with h1 | h1
    · exact Or.inl h1
    · exact Or.inr (Or.inl (ownBlock_mem h1))
  have H1 := HH.out.kept f1 (by simp)
  refine ⟨rfl, g, c, ?_, ?_, ?_⟩
  · refine { lo := H1.lo.kept f2 (fun i hi e => H1.d1 i (hL i e) hi), box := H1.box.kept f2 (fun e => H1.d4 (by simp only [Po.own, List.mem_cons, List.mem_append]; exact Or.inr (Or.inl (hL _ e)))), rn := R2, mp := (HS.out.kept f1 (by simp)).kept f2 (fun e => H1.d2 (hL _ e)), mne := H1.mne, nod := ?_, ok := ?_, hl := ?_, m0 := H1.m0, m1 := H1.m1, hh := ?_, hh0 := ?_, p1 := H1.p1, area := H1.area, dis := H1.dis, hlw := H1.hlw }
    · show ((ids (x.fs ++ [nf])).map (·.1)).Nodup
      unfold ids
      rw [List.map_append, List.map_append, List.nodup_append]
      refine ⟨H1.nod, by simp, fun a ha b hb' e => ?_⟩
      simp at hb'
      subst hb'
      subst e
      exact hpg ha
    · intro f hf
      rcases List.mem_append.1 hf with hf | hf
      · exact H1.ok f hf
      · simp at hf
        subst hf
        exact hok
    · show (x.fs ++ [nf]).length ≤ x.most
      rw [List.length_append]
      exact hs
    · intro _
      show x.hand < x.most
      rw [H1.hh0 hs]
      have := H1.m0
      omega
    · intro _
      exact H1.hh0 hs
  · exact (f1.mono (fun _ _ e => nomatch e)).trans (f2.mono (fun i _ hi => by simp only [Po.own, List.mem_cons, List.mem_append]; exact Or.inr (Or.inl (hL i hi))))
  · intro i hi
    have hi2 : i = x.mp ∨ i ∈ ownR x.rp (some ⟨g, 0, none⟩) (x.fs ++ [nf]) ∨ i ∈ x.y.own := by simpa [Po.own, Po.added] using hi
    simp only [Po.own, List.mem_cons, List.mem_append]
    rcases hi2 with h1 | h1 | h1
    · exact Or.inl (Or.inl h1)
    · rw [ownR_mem] at h1
      rcases h1 with h1 | h1 | ⟨f, hf, h1⟩
      · exact Or.inl (Or.inr (Or.inl (by rw [ownR_mem]; exact Or.inl h1)))
      · simp at h1
        rcases hnew.own with h2 | h2
        · exact Or.inl (Or.inr (Or.inl (by rw [ownR_mem, h1]; exact Or.inr (Or.inl h2))))
        · exact Or.inr (Or.inr (by have := f1.size; omega))
      · rcases List.mem_append.1 hf with hf | hf
        · exact Or.inl (Or.inr (Or.inl (by rw [ownR_mem]; exact Or.inr (Or.inr ⟨f, hf, h1⟩))))
        · simp at hf
          subst hf
          exact Or.inr (Or.inl h1.symm)
    · exact Or.inl (Or.inr (Or.inr h1))
end Go.Proofs.YthajipigppndgaaGreat

namespace Go.Proofs.YthajipigppndgaaGreat
open Go.RowKit Go.Maps

def Po.swapped (x : Po) (y' : Lo) (k j : Nat) (f nf : Fm) : Po := { x with y := y', fs := (turnS k (x.fs.set j { f with fst := 0 }, x.hand)).1.set j nf, hand := (j + 1) % x.fs.length }
set_option maxHeartbeats 4000000 in
theorem enter_full {w : World} {x : Po} (h : PoAt w x) (hs : x.fs.length = x.most) {nf : Fm} (hf : FAt w nf) (hb : nf.b ∉ x.own) (hpg : nf.pg ∉ (ids x.fs).map (·.1)) (hok : FOk x.start x.pages x.y nf) (k : Nat) (hk : k < 2 * x.fs.length) {j : Nat} (hj : (x.hand + k) % x.fs.length = j) {f : Fm} (hjf : x.fs[j]? = some f) :
    Calls Tryz.prog 260 #[.pointer (some ⟨x.pp, 0, none⟩), .pointer (some ⟨nf.b, 0, none⟩), .int .i64 (k : Int)] w fun e w' => e = .returned (.int .i64 0) ∧ ∃ y' S', Mid w' (x.swapped y' k j f nf) S' ∧ TabOk (S'.put (nf.pg : Int) nf.b) (ids (x.swapped y' k j f nf).fs) ∧ Kin x.y y' ∧ (∀ q, q < x.pages → q ≠ f.pg → pgD x.start y' q = pgD x.start x.y q) ∧ pgD x.start y' f.pg = f.l ∧ (0 < f.fst → f.lst ≤ (y'.P : Int)) ∧ Fr x.own w w' ∧ (∀ i ∈ (x.swapped y' k j f nf).own, i ∈ x.own ∨ i = nf.b ∨ w.heap.size ≤ i) := by
  have hdt : decide (x.fs.length < x.pf.most) = false := decide_eq_false (by show ¬ x.fs.length < x.most; omega)
  have HH := hidI h
  have HF := hidI hf
  have HR1 : Hid (∀ nq, Rn (w.drewN nq) x.rp x.sa x.sc x.hand x.fs) := hidI (fun nq => HH.out.rn.kept ((Fr.refl [] w).drewN nq) (by simp))
  have HB1 : Hid (∀ nq, (w.drewN nq).cell? ⟨x.pp, 5, none⟩ = some (.pointer (some ⟨x.rp, 0, none⟩))) := hidI (fun nq => (HH.out.box.kept ((Fr.refl [] w).drewN nq) (by simp)).c5)
  have hbn : nf.b ∉ x.fs.map (·.b) := fun e => hb (by simp only [Po.own, ownR, List.mem_cons, List.mem_append]; exact Or.inr (Or.inl (Or.inr (Or.inr e))))
  have m0 := h.m0
  have m1 := h.m1
  have hhd := h.hh hs
  have hjf' : x.fs[(x.hand + k) % x.fs.length]? = some f := by rw [hj]; exact hjf
  clear h hf
  go_enter Tryz.func260, Tryz.ntmps260
  go_wp2_with (go_at_call 280; refine (spare_any HH.out.box HH.out.rn).mono ?_; rw [hdt]; rintro e w1 ⟨nq, rfl, hz⟩; have d5 := HB1.out nq; have R1 := hidI (HR1.out nq); have f1 := (Fr.refl [] w).drewN nq; rw [← hz] at d5 R1 f1; clear hz)
  refine (ahead_any R1.out (by omega) (by omega) (by omega) k (by omega) f hjf').mono ?_
  rintro e w2 ⟨nq2, rfl, hz2⟩
  have f2 : Fr [] w w2 := by rw [hz2]; exact f1.drewN nq2
  have H2 := hidI (HH.out.kept f2 (by simp))
  clear hz2
  go_wp2_with fail
  refine (save_any H2.out hjf).mono ?_
  rintro e w3 ⟨rfl, y', st3, hkin, hpq, hpf, hlst⟩
  have H3 := hidI st3.at'
  have ST3 := hidI st3
  have e5 : w3.cell? ⟨x.pp, 5, none⟩ = some (.pointer (some ⟨x.rp, 0, none⟩)) := H3.out.box.c5
  have hbo3 : x.fs.map (·.b) = (x.saved y' j f).fs.map (·.b) := (map_b (f' := { f with fst := 0 }) hjf rfl).symm
  have hlen3 : (x.saved y' j f).fs.length = x.fs.length := List.length_set
  clear st3 d5
  go_wp2_with fail
  refine (turn_any H3.out.rn (by rw [hlen3]; omega) (by rw [hlen3]; omega) (by rw [hlen3]; show x.hand < _; omega) k (by omega)).mono ?_
  rintro e w4 ⟨rfl, R4, f4⟩
  have hown3 : ownR x.rp x.sa (x.saved y' j f).fs = ownR x.rp x.sa x.fs := ownR_set (f' := { f with fst := 0 }) hjf rfl
  have hids3 : ids (x.saved y' j f).fs = ids x.fs := ids_set (f' := { f with fst := 0 }) hjf rfl rfl
  have hl4 : (turnS k ((x.saved y' j f).fs, x.hand)).1.length = x.fs.length := (turnS_len _ _).trans hlen3
  have hb4 : (turnS k ((x.saved y' j f).fs, x.hand)).1.map (·.b) = x.fs.map (·.b) := (turnS_b _ _).trans hbo3.symm
  have hid4 : ids (turnS k ((x.saved y' j f).fs, x.hand)).1 = ids x.fs := (turnS_ids _ _).trans hids3
  have hh4 : (turnS k ((x.saved y' j f).fs, x.hand)).2 = j := by
    rw [turnS_hand_eq _ _ (by show x.hand < (x.saved y' j f).fs.length; rw [hlen3]; omega)]
    show (x.hand + k) % (x.saved y' j f).fs.length = j
    rw [hlen3]
    exact hj
  have HAT := hidI (turnS_at k ((x.saved y' j f).fs, x.hand))
  have hsw : Hid (x.swapped y' k j f nf = { x with y := y', fs := (turnS k ((x.saved y' j f).fs, x.hand)).1.set j nf, hand := (j + 1) % x.fs.length }) := hidI rfl
  have R4' : Rn w4 x.rp x.sa x.sc (turnS k ((x.saved y' j f).fs, x.hand)).2 (turnS k ((x.saved y' j f).fs, x.hand)).1 := R4
  clear R4
  rw [hh4] at R4'
  generalize (turnS k ((x.saved y' j f).fs, x.hand)).1 = fs4 at R4' hl4 hb4 hid4 HAT hsw
  have hjl : j < x.fs.length := (List.getElem?_eq_some_iff.1 hjf).1
  obtain ⟨g4, hg4⟩ : ∃ g4, fs4[j]? = some g4 := ⟨_, List.getElem?_eq_getElem (by omega)⟩
  have hgid : g4.pg = f.pg ∧ g4.b = f.b := by
    have h1 : (ids fs4)[j]? = (ids x.fs)[j]? := by rw [hid4]
    unfold ids at h1
    rw [List.getElem?_map, List.getElem?_map, hg4, hjf] at h1
    simpa using h1
  have f4' : Fr (ownR x.rp x.sa x.fs) w3 w4 := by rw [← hown3]; exact f4
  clear f4
  have hbR : nf.b ∉ ownR x.rp x.sa x.fs := fun e => hb (by simp only [Po.own, List.mem_cons, List.mem_append]; exact Or.inr (Or.inl e))
  have NF4 := hidI (((HF.out.kept f2 (by simp)).kept ST3.out.fr hb).kept f4' hbR)
  have BX4 := hidI (H3.out.box.kept f4' (fun e => H3.out.d4 (by simp only [Po.own, List.mem_cons, List.mem_append]; exact Or.inr (Or.inl (by rw [show ownR (x.saved y' j f).rp (x.saved y' j f).sa (x.saved y' j f).fs = ownR x.rp x.sa x.fs from hown3]; exact e)))))
  have LO4 := hidI (H3.out.lo.kept f4' (fun i hi e => H3.out.d1 i (by rw [show ownR (x.saved y' j f).rp (x.saved y' j f).sa (x.saved y' j f).fs = ownR x.rp x.sa x.fs from hown3]; exact e) hi))
  obtain ⟨S, hS3, hT3⟩ := H3.out.mp
  rw [show ids (x.saved y' j f).fs = ids x.fs from hids3] at hT3
  have MP4 := hidI (hS3.kept f4' (fun e => H3.out.d2 (by rw [show ownR (x.saved y' j f).rp (x.saved y' j f).sa (x.saved y' j f).fs = ownR x.rp x.sa x.fs from hown3]; exact e)))
  have R4 := hidI R4'
  have G4 := hidI (R4'.frames g4 (List.mem_of_getElem? hg4))
  have b45 : w4.cell? ⟨x.pp, 5, none⟩ = some (.pointer (some ⟨x.rp, 0, none⟩)) := BX4.out.c5
  have b46 : w4.cell? ⟨x.pp, 6, none⟩ = some (.map (some x.mp)) := BX4.out.c6
  have hwf : (Lit.int .i64 (g4.pg : Int)).wf = true := WalkArith.wf_i64 (by have := (H2.out.ok f (List.mem_of_getElem? hjf)).pg; have := H2.out.area; have := H2.out.lo.dev.n2; omega)
  have HK5 : Hid (∀ w5, Fr (x.rp :: (Value.ownBlock (.slice x.sa fs4.length x.sc)).toList) w4.drew w5 → w5.cell? ⟨x.pp, 6, none⟩ = some (.map (some x.mp)) ∧ w5.cell? ⟨g4.b, 0, none⟩ = some (.int .i64 (g4.pg : Int)) ∧ pMap w5 x.mp S ∧ LoAt w5 y' ∧ PBox' w5 x.pp (x.saved y' j f).pf) := hidI (fun w5 f5 => by
    have nin : ∀ i ∈ x.rp :: (Value.ownBlock (.slice x.sa fs4.length x.sc)).toList, ∃ cur t, w4.heap[i]? = some (.cells cur t) ∧ (t = 315 ∨ t = 195) := by
      intro i hi
      rcases List.mem_cons.1 hi with rfl | hi
      · exact ⟨_, _, R4.out.ring, Or.inl rfl⟩
      · obtain ⟨cur, hc⟩ := own0_type R4.out.slots i hi
        exact ⟨_, _, hc, Or.inr rfl⟩
    have k4 : Fr [] w4 w4.drew := (Fr.refl [] w4).drew
    have q1 : PBox' w5 x.pp (x.saved y' j f).pf := (BX4.out.kept k4 (by simp)).kept f5 (fun e => by
      obtain ⟨cur, t, hc, ht⟩ := nin _ e
      have h1 := Eq.trans (Eq.symm hc) BX4.out
      cases h1
      exact absurd ht (by decide))
    have q2 := (G4.out.kept k4 (by simp)).kept f5 (fun e => by
      obtain ⟨cur, t, hc, ht⟩ := nin _ e
      have h1 := G4.out.at'
      rw [hc] at h1
      cases h1
      exact absurd ht (by decide))
    refine ⟨q1.c6, q2.c0, (MP4.out.kept k4 (by simp)).kept f5 (fun e => ?_), (LO4.out.kept k4 (by simp)).kept f5 (fun i hi e => ?_), q1⟩
    · obtain ⟨cur, t, hc, ht⟩ := nin _ e
      exact MP4.out.notcells _ _ hc
    · obtain ⟨cur, t, hc, ht⟩ := nin _ e
      have h1 := (LO4.out.types i hi).2 _ _ hc
      rcases ht with rfl | rfl <;> exact absurd h1 (by decide))
  have HGID := hidI hgid
  clear e5 R4' hS3 hgid
  go_wp2_with fail
  go_region_law ((first
    | (go_simp; go_at_call 288; refine (swap_any (R4.out.kept (Fr.refl [] w4).drew (by simp)) (by omega) (by omega) (by omega) hg4 (NF4.out.kept (Fr.refl [] w4).drew (by simp)) (by rw [hb4]; exact hbn)).mono ?_; rintro e w5 ⟨rfl, R5, f5⟩; obtain ⟨d6, d0, M5, L5, B5⟩ := HK5.out w5 f5)
    | (refine step_pDel (by rfl) _ _ (by rfl) x.mp S (g4.pg : Int) hwf rfl rfl M5 ?_; intro w6 M6 f6)))
  all_goals
    go_wp2_with fail
    go_ret
    have hgid := HGID.out
    have hl5 : (fs4.set j nf).length = x.fs.length := by rw [List.length_set, hl4]
    rw [hl4] at R5
    have hmR : ∀ i ∈ ownR x.rp x.sa (fs4.set j nf), i ∉ [x.mp] := by
      intro i hi e
      simp at e
      subst e
      obtain ⟨cur, t, hc, _⟩ := R5.types _ hi
      exact M5.notcells _ _ hc
    have hml : x.mp ∉ y'.own := H3.out.d3
    have hidx : ids (fs4.set j nf) = (ids x.fs).set j (nf.pg, nf.b) := by
      rw [← hid4]
      unfold ids
      rw [List.map_set]
    have hgj : (ids x.fs)[j]? = some (g4.pg, g4.b) := by
      rw [hgid.1, hgid.2]
      unfold ids
      rw [List.getElem?_map, hjf]
      rfl
    refine ⟨rfl, y', S.del (g4.pg : Int), ?_, ?_, hkin, hpq, hpf, hlst, ?_, ?_⟩
    · rw [hsw.out]
      refine { lo := L5.kept f6 (fun i hi e => by simp at e; subst e; exact hml hi), box := ?_, rn := R5.kept f6 hmR, mp := M6, mne := H3.out.mne, nod := ?_, ok := ?_, hl := ?_, m0 := m0, m1 := m1, hh := ?_, hh0 := ?_, p1 := H3.out.p1, area := H3.out.area, dis := H3.out.dis, hlw := H3.out.hlw }
      · exact B5.kept f6 (fun e => by
          simp at e
          have h1 := B5
          unfold PBox' at h1
          rw [e] at h1
          exact M5.notcells _ _ h1)
      · show ((ids (fs4.set j nf)).map (·.1)).Nodup
        rw [hidx, List.map_set]
        exact nodup_set HH.out.nod hpg
      · intro g hg
        rcases mem_set hg4 hg with rfl | ⟨i, hi, hgi⟩
        · exact hok.turn hkin (hpq _ hok.pg (fun e => hpg (List.mem_map.2 ⟨(f.pg, f.b), List.mem_of_getElem? (by rw [hgj, hgid.1, hgid.2]), e.symm⟩)))
        · obtain ⟨g', h1, h2⟩ := HAT.out i g hgi
          have h3 := H3.out.ok g' (List.mem_of_getElem? h1)
          rcases h2 with rfl | rfl
          · exact h3
          · exact h3.off
      · show (fs4.set j nf).length ≤ x.most
        omega
      · intro _
        show (j + 1) % x.fs.length < x.most
        rw [← hs]
        exact Nat.mod_lt _ (by omega)
      · intro h1
        have h2 : (fs4.set j nf).length < x.most := h1
        omega
    · rw [hsw.out]
      show TabOk _ (ids (fs4.set j nf))
      rw [hidx]
      exact hT3.swap HH.out.nod hgj hpg
    · have q1 : Fr x.own w w2 := f2.mono (fun _ _ e => nomatch e)
      have q2 := q1.trans ST3.out.fr
      have q3 : Fr x.own w3 w4 := f4'.mono (fun i _ hi => by simp only [Po.own, List.mem_cons, List.mem_append]; exact Or.inr (Or.inl hi))
      have q5 : Fr x.own w4 w5 := (Fr.refl _ w4).drew.trans (f5.mono (fun i _ hi => by
        simp only [Po.own, List.mem_cons, List.mem_append]
        refine Or.inr (Or.inl ?_)
        rw [ownR_mem]
        rcases List.mem_cons.1 hi with h1 | h1
        · exact Or.inl h1
        · exact Or.inr (Or.inl (ownBlock_mem h1))))
      have q6 : Fr x.own w5 w6 := f6.mono (fun i _ hi => by simp at hi; subst hi; simp [Po.own])
      exact ((q2.trans q3).trans q5).trans q6
    · intro i hi
      rw [hsw.out] at hi
      have hi2 : i = x.mp ∨ i ∈ ownR x.rp x.sa (fs4.set j nf) ∨ i ∈ y'.own := by simpa [Po.own] using hi
      rcases hi2 with h1 | h1 | h1
      · exact Or.inl (by rw [h1]; simp [Po.own])
      · rw [ownR_mem] at h1
        rcases h1 with h1 | h1 | ⟨g, hg, h1⟩
        · exact Or.inl (by simp only [Po.own, List.mem_cons, List.mem_append]; exact Or.inr (Or.inl (by rw [ownR_mem]; exact Or.inl h1)))
        · exact Or.inl (by simp only [Po.own, List.mem_cons, List.mem_append]; exact Or.inr (Or.inl (by rw [ownR_mem]; exact Or.inr (Or.inl h1))))
        · rcases mem_set hg4 hg with rfl | ⟨i', hi', hgi⟩
          · exact Or.inr (Or.inl h1.symm)
          · have h2 : g.b ∈ x.fs.map (·.b) := by rw [← hb4]; exact List.mem_map.2 ⟨g, List.mem_of_getElem? hgi, rfl⟩
            exact Or.inl (by simp only [Po.own, ownR, List.mem_cons, List.mem_append]; exact Or.inr (Or.inl (Or.inr (Or.inr (by rw [← h1]; exact h2)))))
      · rcases ST3.out.ow i (by simp only [Po.own, List.mem_cons, List.mem_append]; exact Or.inr (Or.inr h1)) with h2 | h2
        · exact Or.inl h2
        · exact Or.inr (Or.inr (Nat.le_trans f2.size h2))
end Go.Proofs.YthajipigppndgaaGreat

