/-
  A page that goes is saved: it stands on the device as it is, behind its log.
-/
import Derived.Test.YtopaeomjndblkaaGreatY22Z
namespace Go.Proofs.YtopaeomjndblkaaGreat
open Go.RowKit Go.Maps

/-- A row of pointers to frames, as it is read. -/
def PtRow (w : World) (ad : Option Addr) (fs : List Fm) : Prop := ∀ j f, fs[j]? = some f → ∃ g, ad = some ⟨g, 0, none⟩ ∧ w.cell? ⟨g, j, none⟩ = some (.pointer (some ⟨f.b, 0, none⟩))
theorem PtRow.kept {w w' : World} {ad : Option Addr} {fs : List Fm} {L : List Nat} (h : PtRow w ad fs) (f : Fr L w w') (hL : ∀ a, ad = some a → a.block ∉ L) : PtRow w' ad fs := by
  intro j x hx
  obtain ⟨g, rfl, hc⟩ := h j x hx
  refine ⟨g, rfl, ?_⟩
  rw [← hc]
  have hb : w'.heap[g]? = w.heap[g]? := f.block g (block_lt_of_cell hc) (hL _ rfl)
  unfold World.cell?
  simp only [hb]
set_option maxHeartbeats 2000000 in
theorem cover_any {w : World} {pp : Nat} {x : Pf} (h : PBox' w pp x) {y : Lo} (hy : LoAt w y) (hp : x.p = y.p) (ad : Option Addr) (n c : Nat) (fs : List Fm) (hn : fs.length = n) (hm : n ≤ 1024) (hr : PtRow w ad fs) (hf : ∀ f ∈ fs, FAt w f ∧ f.lst ≤ (y.E : Int)) :
    Calls Tryz.prog 172 #[.pointer (some ⟨pp, 0, none⟩), .slice ad n c] w fun e w' => e = .returned (.int .i64 0) ∧ ∃ y', LoAt w' y' ∧ Forced y y' ∧ (∀ f ∈ fs, f.lst ≤ (y'.P : Int)) ∧ (∀ k ∈ y'.own, k ∈ y.own ∨ w.heap.size ≤ k) ∧ Fr [y.p, y.d, y.bs, y.bo] w w' := by
  have HB := hidI h
  have HY := hidI hy
  have HR := hidI hr
  have HFS := hidI hf
  have HN := hidI hn
  clear h hy hr hf hn
  go_enter Tryz.func172, Tryz.ntmps172
  go_wp2_with fail
  go_loopw [9] (fun s9 wr => ∃ (i : Nat), i ≤ n ∧ s9 = .int .i64 (i : Int) ∧ Hid (∀ j f, j < i → fs[j]? = some f → f.lst ≤ (y.P : Int)) ∧ Hid (Fr [] w wr)) (fun s9 _ => n - (intOf s9).toNat)
  case atStart => exact ⟨0, by omega, rfl, hidI (fun j f hj => by omega), hidI (Fr.refl _ _)⟩
  case round =>
    obtain ⟨i, hi, rfl, HI, HF⟩ := hrel
    have Y1 := hidI (HY.out.kept HF.out (by simp))
    have FF := HF.out
    by_cases hlt : i < n
    · have q1 : (i : Int) < (n : Int) := by omega
      have q0 : (0 : Int) ≤ (i : Int) := by omega
      obtain ⟨f, hf⟩ : ∃ f, fs[i]? = some f := ⟨_, List.getElem?_eq_getElem (by have := HN.out; omega)⟩
      obtain ⟨g, rfl, cj⟩ := (HR.out.kept HF.out (by simp)) i f hf
      have hfa := HFS.out f (List.mem_of_getElem? hf)
      have f5 := (hfa.1.kept HF.out (by simp)).c5
      have hfe := hfa.2
      have b1 := (HB.out.kept HF.out (by simp)).c1
      rw [hp] at b1
      have hwi : IntKind.i64.wrap ((i : Int) + 1) = (i : Int) + 1 := wrapI _ (by omega) (by omega)
      by_cases hs : f.lst ≤ (y.P : Int)
      · have q2 : ¬ ((y.P : Int) + 1) ≤ f.lst := by omega
        have q3 : f.lst < (y.P : Int) + 1 := by omega
        clear hfa
        go_wp2_with fail
        go_region_law ((go_simp; go_at_call 85; refine (lo_safe (Y1.out.kept (Fr.refl [] wr).drew (by simp))).mono ?_; rintro e w3 ⟨rfl, hw3⟩; have f53 : w3.cell? ⟨f.b, 516, none⟩ = some (.int .i64 f.lst) := (by rw [hw3]; exact f5)))
        all_goals
          subst hw3
          go_wp2_with fail
          refine ⟨⟨i + 1, by omega, by go_num, hidI (fun j g' hj hg' => ?_), hidI FF.drew⟩, by simp [intOf]; omega⟩
          rcases Nat.lt_succ_iff_lt_or_eq.1 hj with h1 | rfl
          · exact HI.out j g' h1 hg'
          · rw [hf] at hg'
            cases hg'
            exact hs
      · have q2 : ((y.P : Int) + 1) ≤ f.lst := by omega
        have q3 : ¬ f.lst < (y.P : Int) + 1 := by omega
        clear hfa
        go_wp2_with fail
        go_region_law ((go_simp; go_at_call 85; refine (lo_safe (Y1.out.kept (Fr.refl [] wr).drew (by simp))).mono ?_; rintro e w3 ⟨rfl, hw3⟩; have f53 : w3.cell? ⟨f.b, 516, none⟩ = some (.int .i64 f.lst) := (by rw [hw3]; exact f5)))
        all_goals
          subst hw3
          go_wp2_with fail
          refine (lo_force (Y1.out.kept (Fr.refl [] wr).drew (by simp))).mono ?_
          rintro e w4 ⟨rfl, y', L4, F4, hP, hown, f4⟩
          go_wp2_with fail
          go_ret
          refine ⟨rfl, y', L4, F4, fun f' hf' => ?_, fun k hk => (hown k hk).imp id (fun h1 => Nat.le_trans FF.size h1), (FF.mono (fun _ _ e => nomatch e)).trans ((Fr.refl _ wr).drew.trans f4)⟩
          rw [hP]
          exact (HFS.out f' hf').2
    · have q1 : ¬ (i : Int) < (n : Int) := by omega
      go_wp2_with fail
      go_ret
      refine ⟨rfl, y, Y1.out, Forced.refl y, fun f hf => ?_, fun k hk => Or.inl hk, FF.mono (fun _ _ e => nomatch e)⟩
      obtain ⟨j, hj⟩ := List.mem_iff_getElem?.1 hf
      exact HI.out j f (by have h1 := (List.getElem?_eq_some_iff.1 hj).1; have := HN.out; omega) hj
end Go.Proofs.YtopaeomjndblkaaGreat

namespace Go.Proofs.YtopaeomjndblkaaGreat
open Go.RowKit Go.Maps

structure Po where
  y : Lo
  pp : Nat
  rp : Nat
  mp : Nat
  start : Nat
  pages : Nat
  most : Nat
  sa : Option Addr
  sc : Nat
  hand : Nat
  fs : List Fm
def Po.pf (x : Po) : Pf := ⟨x.y.d, x.y.p, x.start, x.pages, x.most, x.rp, x.mp⟩
def ids (fs : List Fm) : List (Nat × Nat) := fs.map fun f => (f.pg, f.b)
/-- The map says just which frame each page is in. -/
structure TabOk (S : PTab) (l : List (Nat × Nat)) : Prop where
  has : ∀ q ∈ l, S (q.1 : Int) = some q.2
  only : ∀ k b, S k = some b → ∃ q ∈ l, (q.1 : Int) = k ∧ q.2 = b
/-- What stands on the device of a page. -/
def pgD (start : Nat) (y : Lo) (q : Nat) : List UInt8 := Dv.latest y.S y.O ((start : Int) + (q : Int))
/-- One frame is as it must be. -/
structure FOk (start pages : Nat) (y : Lo) (f : Fm) : Prop where
  pg : f.pg < pages
  h0 : 0 ≤ f.hd
  h1 : f.hd ≤ 1000000
  f0 : 0 ≤ f.fst
  l0 : 0 ≤ f.lst
  l1 : f.lst ≤ (y.E : Int)
  cl : f.fst = 0 → f.l = pgD start y f.pg
structure PoAt (w : World) (x : Po) : Prop where
  lo : LoAt w x.y
  box : PBox' w x.pp x.pf
  rn : Rn w x.rp x.sa x.sc x.hand x.fs
  mp : ∃ S, pMap w x.mp S ∧ TabOk S (ids x.fs)
  mne : x.mp ≠ x.y.bs ∧ x.mp ≠ x.y.bo
  nod : ((ids x.fs).map (·.1)).Nodup
  ok : ∀ f ∈ x.fs, FOk x.start x.pages x.y f
  hl : x.fs.length ≤ x.most
  m0 : 8 ≤ x.most
  m1 : x.most ≤ 1024
  hh : x.fs.length = x.most → x.hand < x.most
  hh0 : x.fs.length < x.most → x.hand = 0
  p1 : 1 ≤ x.pages
  area : (x.start : Int) + (x.pages : Int) ≤ x.y.nb
  dis : (x.start : Int) + (x.pages : Int) ≤ x.y.first ∨ x.y.first + x.y.count ≤ (x.start : Int)
  hlw : x.y.lw ≤ (x.start : Int)
/-- The blocks that are its own (but for the pool's, which never changes). -/
def Po.own (x : Po) : List Nat := x.mp :: (ownR x.rp x.sa x.fs ++ x.y.own)
theorem PoAt.d1 {w : World} {x : Po} (h : PoAt w x) : ∀ k ∈ ownR x.rp x.sa x.fs, k ∉ x.y.own := by
  intro k hk hy
  obtain ⟨cur, t, hc, ht⟩ := h.rn.types k hk
  have h2 := (h.lo.types k hy).2 cur t hc
  rcases ht with rfl | rfl | rfl <;> exact absurd h2 (by decide)
theorem PoAt.d2 {w : World} {x : Po} (h : PoAt w x) : x.mp ∉ ownR x.rp x.sa x.fs := by
  intro hk
  obtain ⟨S, hm, _⟩ := h.mp
  obtain ⟨cur, t, hc, _⟩ := h.rn.types _ hk
  exact hm.notcells _ _ hc
theorem PoAt.d3 {w : World} {x : Po} (h : PoAt w x) : x.mp ∉ x.y.own := by
  intro hk
  obtain ⟨S, hm, _⟩ := h.mp
  have hn := hm.notcells
  simp only [Lo.own, List.mem_append, List.mem_cons, List.not_mem_nil, or_false] at hk
  rcases hk with (e | e | e | e) | hk | hk
  · have h1 := h.lo.box
    unfold LBox at h1
    rw [← e] at h1
    exact hn _ _ h1
  · have h1 := h.lo.dev.cells
    rw [← e] at h1
    exact hn _ _ h1
  · exact h.mne.1 e
  · exact h.mne.2 e
  · obtain ⟨cur', hc⟩ := own0_type h.lo.bsA _ hk
    exact hn _ _ hc
  · obtain ⟨cur', hc⟩ := own0_type h.lo.lsA _ hk
    exact hn _ _ hc
theorem PoAt.d4 {w : World} {x : Po} (h : PoAt w x) : x.pp ∉ x.own := by
  intro hk
  simp only [Po.own, List.mem_cons, List.mem_append] at hk
  rcases hk with e | hk | hk
  · obtain ⟨S, hm, _⟩ := h.mp
    have h1 := h.box
    unfold PBox' at h1
    rw [e] at h1
    exact hm.notcells _ _ h1
  · obtain ⟨cur, t, hc, ht⟩ := h.rn.types _ hk
    have h1 := h.box
    unfold PBox' at h1
    rw [hc] at h1
    cases h1
    rcases ht with e | e | e <;> exact absurd e (by decide)
  · have h1 := (h.lo.types _ hk).2 _ _ h.box
    exact absurd h1 (by decide)
theorem PoAt.lt {w : World} {x : Po} (h : PoAt w x) : ∀ k ∈ x.pp :: x.own, k < w.heap.size := by
  intro k hk
  simp only [Po.own, List.mem_cons, List.mem_append] at hk
  rcases hk with rfl | rfl | hk | hk
  · exact (Array.getElem?_eq_some_iff.1 h.box).1
  · obtain ⟨S, hm, _⟩ := h.mp
    exact hm.lt
  · exact h.rn.lt k hk
  · exact (h.lo.types k hk).1
theorem PoAt.kept {w w' : World} {x : Po} {L : List Nat} (h : PoAt w x) (f : Fr L w w') (hL : ∀ k ∈ x.pp :: x.own, k ∉ L) : PoAt w' x :=
  { h with
    lo := h.lo.kept f (fun k hk => hL k (by simp only [Po.own, List.mem_cons, List.mem_append]; exact Or.inr (Or.inr (Or.inr hk))))
    box := h.box.kept f (hL _ List.mem_cons_self)
    rn := h.rn.kept f (fun k hk => hL k (by simp only [Po.own, List.mem_cons, List.mem_append]; exact Or.inr (Or.inr (Or.inl hk))))
    mp := by
      obtain ⟨S, hm, ht⟩ := h.mp
      exact ⟨S, hm.kept f (hL _ (by simp [Po.own])), ht⟩ }
/-- A step of a pool: what it is behind it, and which memory has changed. -/
structure Step (w w' : World) (x x' : Po) : Prop where
  at' : PoAt w' x'
  fr : Fr x.own w w'
  ow : ∀ k ∈ x'.own, k ∈ x.own ∨ w.heap.size ≤ k
theorem Step.trans {w w1 w2 : World} {x x1 x2 : Po} (h : Step w w1 x x1) (k : Step w1 w2 x1 x2) : Step w w2 x x2 :=
  ⟨k.at', h.fr.then k.fr (fun i hi hm => (h.ow i hm).resolve_right (by omega)), fun i hi => (k.ow i hi).elim (fun h1 => h.ow i h1) (fun h1 => Or.inr (Nat.le_trans h.fr.size h1))⟩
/-- What a log and its device have in common behind whatever the pool does. -/
structure Kin (y y' : Lo) : Prop where
  d : y'.d = y.d
  bs : y'.bs = y.bs
  bo : y'.bo = y.bo
  nb : y'.nb = y.nb
  p : y'.p = y.p
  first : y'.first = y.first
  count : y'.count = y.count
  T : y'.T = y.T
  A : y'.A = y.A
  E : y'.E = y.E
  P : y.P ≤ y'.P
  lw : y'.lw = y.lw
  ls : y'.ls = y.ls
  n2 : y'.n2 = y.n2
  lb : ∀ k, y.A ≤ k → y'.lb.drop (k - y'.F) = y.lb.drop (k - y.F)
  low : ∀ k : Int, k < y.lw → Dv.latest y'.S y'.O k = Dv.latest y.S y.O k
theorem Kin.refl (y : Lo) : Kin y y := ⟨rfl, rfl, rfl, rfl, rfl, rfl, rfl, rfl, rfl, rfl, Nat.le_refl _, rfl, rfl, rfl, fun _ _ => rfl, fun _ _ => rfl⟩
theorem Kin.trans {a b c : Lo} (h : Kin a b) (k : Kin b c) : Kin a c := ⟨k.d.trans h.d, k.bs.trans h.bs, k.bo.trans h.bo, k.nb.trans h.nb, k.p.trans h.p, k.first.trans h.first, k.count.trans h.count, k.T.trans h.T, k.A.trans h.A, k.E.trans h.E, Nat.le_trans h.P k.P, k.lw.trans h.lw, k.ls.trans h.ls, k.n2.trans h.n2, fun i hi => (k.lb i (by rw [h.A]; exact hi)).trans (h.lb i hi), fun i hi => (k.low i (by rw [h.lw]; exact hi)).trans (h.low i hi)⟩
theorem Forced.kin {y y' : Lo} (h : Forced y y') : Kin y y' := ⟨h.d, h.bs, h.bo, h.nb, h.p, h.first, h.count, h.T, h.A, h.E, h.P, h.lw, h.ls, h.n2, h.lb, h.low⟩
theorem Forced.pg {y y' : Lo} (h : Forced y y') {start pages : Nat} (hd : (start : Int) + (pages : Int) ≤ y.first ∨ y.first + y.count ≤ (start : Int)) {q : Nat} (hq : q < pages) : pgD start y' q = pgD start y q := h.out _ (by omega)
theorem FOk.turn {start pages : Nat} {y y' : Lo} {f : Fm} (h : FOk start pages y f) (k : Kin y y') (e : pgD start y' f.pg = pgD start y f.pg) : FOk start pages y' f :=
  { h with l1 := by rw [k.E]; exact h.l1, cl := fun h0 => by rw [e]; exact h.cl h0 }
theorem latest_put (S O : Dv.Tab) (k j : Int) (l : List UInt8) : Dv.latest S (Dv.Tab.put O k l) j = if j = k then l else Dv.latest S O j := by
  unfold Dv.latest Dv.Tab.put
  by_cases e : j = k <;> simp [e]
theorem latest_sync (S O : Dv.Tab) (k : Int) : Dv.latest (Dv.over S O) Dv.Tab.none k = Dv.latest S O k := by
  unfold Dv.latest Dv.over Dv.Tab.none Dv.Tab.get
  cases e : O k <;> simp [e]
theorem Kin.put {y y' : Lo} (h : Kin y y') {k : Int} {l : List UInt8} (hk : y.lw ≤ k) : Kin y { y' with O := Dv.Tab.put y'.O k l } := by
  refine { h with low := fun j hj => ?_ }
  show Dv.latest y'.S (Dv.Tab.put y'.O k l) j = _
  rw [latest_put, if_neg (by omega)]
  exact h.low j hj
theorem Kin.sync {y y' : Lo} (h : Kin y y') : Kin y { y' with S := Dv.over y'.S y'.O, O := Dv.Tab.none } := by
  refine { h with low := fun j hj => ?_ }
  show Dv.latest (Dv.over y'.S y'.O) Dv.Tab.none j = _
  rw [latest_sync]
  exact h.low j hj
end Go.Proofs.YtopaeomjndblkaaGreat

namespace Go.Proofs.YtopaeomjndblkaaGreat
open Go.RowKit Go.Maps

def Po.saved (x : Po) (y' : Lo) (j : Nat) (f : Fm) : Po := { x with y := y', fs := x.fs.set j { f with fst := 0 } }
theorem ids_set {fs : List Fm} {j : Nat} {f f' : Fm} (h : fs[j]? = some f) (hp : f'.pg = f.pg) (hb : f'.b = f.b) : ids (fs.set j f') = ids fs := by
  unfold ids
  rw [List.map_set]
  exact set_same (by simp [h, hp, hb])
theorem pg_ne {fs : List Fm} (h : ((ids fs).map (·.1)).Nodup) {i j : Nat} {x f : Fm} (hx : fs[i]? = some x) (hf : fs[j]? = some f) (hij : i ≠ j) : x.pg ≠ f.pg := by
  have h1 : ∀ i j : Nat, i < j → ∀ x f : Fm, fs[i]? = some x → fs[j]? = some f → x.pg ≠ f.pg := by
    intro i j hlt x f hx hf
    obtain ⟨hi, rfl⟩ := List.getElem?_eq_some_iff.1 hx
    obtain ⟨hj, rfl⟩ := List.getElem?_eq_some_iff.1 hf
    have := List.pairwise_iff_getElem.1 h i j (by simpa [ids] using hi) (by simpa [ids] using hj) hlt
    simpa [ids] using this
  rcases Nat.lt_or_gt_of_ne hij with h2 | h2
  · exact h1 i j h2 x f hx hf
  · exact (h1 j i h2 f x hf hx).symm
theorem own_b {x : Po} {j : Nat} {f : Fm} (h : x.fs[j]? = some f) : f.b ∈ x.own := by
  simp only [Po.own, ownR, List.mem_cons, List.mem_append, List.mem_map]
  exact Or.inr (Or.inl (Or.inr (Or.inr ⟨f, List.mem_of_getElem? h, rfl⟩)))
theorem ownR_set {rp : Nat} {sa : Option Addr} {fs : List Fm} {j : Nat} {f f' : Fm} (h : fs[j]? = some f) (hb : f'.b = f.b) : ownR rp sa (fs.set j f') = ownR rp sa fs := by
  unfold ownR
  rw [map_b h hb]
set_option maxHeartbeats 2000000 in
theorem save_any {w : World} {x : Po} (h : PoAt w x) {j : Nat} {f : Fm} (hj : x.fs[j]? = some f) :
    Calls Tryz.prog 249 #[.pointer (some ⟨x.pp, 0, none⟩), .pointer (some ⟨f.b, 0, none⟩)] w fun e w' => e = .returned (.int .i64 0) ∧ ∃ y', Step w w' x (x.saved y' j f) ∧ Kin x.y y' ∧ (∀ q, q < x.pages → q ≠ f.pg → pgD x.start y' q = pgD x.start x.y q) ∧ pgD x.start y' f.pg = f.l ∧ (0 < f.fst → f.lst ≤ (y'.P : Int)) := by
  have hm := List.mem_of_getElem? hj
  have hfa := h.rn.frames f hm
  have hok := h.ok f hm
  have HH := hidI h
  have HFA := hidI hfa
  by_cases hd : 0 < f.fst
  · have hdt : decide (0 < f.fst) = true := decide_eq_true hd
    have fa : Fr [] w (w.alloc (.cells #[.pointer (some ⟨f.b, 0, none⟩)] 159)) := (Fr.refl [] w).alloc _
    have hnew := hidI (heap_alloc_new w (.cells #[.pointer (some ⟨f.b, 0, none⟩)] 159))
    have H1 := hidI (h.kept fa (by simp))
    have FA1 := hidI (hfa.kept fa (by simp))
    clear h hfa
    go_enter Tryz.func249, Tryz.ntmps249
    go_wp2_with (go_at_call 187; refine (dirty_any HFA.out).mono ?_; rw [hdt]; rintro e wz ⟨rfl, hz⟩; rw [hz]; clear hz)
    generalize w.alloc (.cells #[.pointer (some ⟨f.b, 0, none⟩)] 159) = w1 at fa hnew H1 FA1 ⊢
    refine (cover_any H1.out.box H1.out.lo rfl (some ⟨w.heap.size, 0, none⟩) 1 1 [f] rfl (by omega) (fun i g hg => ?_) (fun g hg => ?_)).mono ?_
    · cases i with
      | zero =>
        simp at hg
        subst hg
        exact ⟨_, rfl, cell_of_row w1 _ 0 _ _ _ hnew.out⟩
      | succ i => simp at hg
    · simp at hg
      subst hg
      exact ⟨FA1.out, hok.l1⟩
    · rintro e w2 ⟨rfl, y', L2, FO, hP, hown, f2⟩
      have hL4 : ∀ k ∈ [x.y.p, x.y.d, x.y.bs, x.y.bo], k ∈ x.y.own := by
        intro k hk
        simp only [Lo.own, List.mem_append]
        exact Or.inl hk
      have B2 := H1.out.box.kept f2 (fun e => H1.out.d4 (by simp only [Po.own, List.mem_cons, List.mem_append]; exact Or.inr (Or.inr (hL4 _ e))))
      have hfo : f.b ∈ ownR x.rp x.sa x.fs := by simp only [ownR, List.mem_cons, List.mem_append, List.mem_map]; exact Or.inr (Or.inr ⟨f, hm, rfl⟩)
      have F2 := FA1.out.kept f2 (fun e => H1.out.d1 _ hfo (hL4 _ e))
      have R2 := H1.out.rn.kept f2 (fun k hk e => H1.out.d1 k hk (hL4 _ e))
      have D2 : Dv.Dev w2 x.pf.d y'.bs y'.bo y'.nb 0 false y'.S y'.O := by rw [show x.pf.d = y'.d from FO.d.symm]; exact L2.dev
      have hkn : (x.pf.start : Int) + (f.pg : Int) < y'.nb := by
        have h1 := H1.out.area
        have h2 := hok.pg
        rw [FO.nb]
        show (x.start : Int) + (f.pg : Int) < x.y.nb
        omega
      have M2 : ∃ S, pMap w2 x.mp S ∧ TabOk S (ids x.fs) := by
        obtain ⟨S, hm2, ht⟩ := H1.out.mp
        exact ⟨S, hm2.kept f2 (fun e => H1.out.d3 (hL4 _ e)), ht⟩
      have HL2 := hidI L2
      have HR2 := hidI R2
      have HB2 := hidI B2
      have HD2 := hidI D2
      have HF2 := hidI F2
      clear L2 R2 D2 F2 B2
      go_wp2_with fail
      refine (pwrite_any HB2.out HD2.out HF2.out hkn).mono ?_
      rintro e w3 ⟨rfl, D3, F3, f3⟩
      go_wp2_with fail
      go_ret
      have hbo : ∀ S, pMap w2 x.mp S → x.mp ∉ [x.pf.d, y'.bo, f.b] := by
        intro S hS e
        simp only [List.mem_cons, List.not_mem_nil, or_false] at e
        rcases e with e | e | e
        · have h1 := HD2.out.cells
          rw [← e] at h1
          exact hS.notcells _ _ h1
        · rw [FO.bo] at e
          exact H1.out.mne.2 e
        · have h1 := HF2.out.at'
          rw [← e] at h1
          exact hS.notcells _ _ h1
      have hty : ∀ (t : TypeId), t ≠ 180 → t ≠ 162 → ∀ g ∈ [x.pf.d, y'.bo, f.b], ∀ cur t', w2.heap[g]? = some (.cells cur t') → t' ≠ t := by
        intro t h1 h2 g hg cur t' e et
        subst et
        simp only [List.mem_cons, List.not_mem_nil, or_false] at hg
        rcases hg with rfl | rfl | rfl
        · rw [HD2.out.cells] at e
          cases e
          exact h1 rfl
        · obtain ⟨D', ⟨es, clock, hb, _⟩, _⟩ := HD2.out.opn
          rw [hb] at e
          cases e
        · rw [HF2.out.at'] at e
          cases e
          exact h2 rfl
      have nin : ∀ k cur t, w2.heap[k]? = some (.cells cur t) → t ≠ 180 → t ≠ 162 → k ∉ [x.pf.d, y'.bo, f.b] := fun k cur t hc h1 h2 hk => hty t h1 h2 k hk cur t hc rfl
      refine ⟨rfl, { y' with O := Dv.Tab.put y'.O ((x.start : Int) + (f.pg : Int)) f.l }, ⟨?_, ?_, ?_⟩, ?_, ?_, ?_, ?_⟩
      · have L2 := HL2.out
        have LO : LoAt w3 { y' with O := Dv.Tab.put y'.O ((x.start : Int) + (f.pg : Int)) f.l } :=
          { L2 with
            dev := by
              have h1 := D3
              rw [show x.pf.d = y'.d from FO.d.symm] at h1
              exact h1
            box := L2.box.kept f3 (nin _ _ _ L2.box (by decide) (by decide))
            bsA := own0_kept L2.bsA f3 (hty 5 (by decide) (by decide))
            lsA := own0_kept L2.lsA f3 (hty 2 (by decide) (by decide)) }
        have hrn : ∀ k ∈ ownR x.rp x.sa x.fs, k ≠ f.b → k ∉ [x.pf.d, y'.bo, f.b] := by
          intro k hk hne e
          simp only [List.mem_cons, List.not_mem_nil, or_false] at e
          obtain ⟨cur, t, hc, ht⟩ := HR2.out.types k hk
          rcases e with e | e | e
          · rw [e, HD2.out.cells] at hc
            cases hc
            exact absurd ht (by decide)
          · obtain ⟨D', ⟨es, clock, hb, _⟩, _⟩ := HD2.out.opn
            rw [e, hb] at hc
            cases hc
          · exact hne e
        have hk' := FO.kin
        refine { lo := LO, box := ?_, rn := HR2.out.setF' hj rfl F3 f3 hrn, mp := ?_, mne := ?_, nod := ?_, ok := ?_, hl := ?_, m0 := H1.out.m0, m1 := H1.out.m1, hh := ?_, hh0 := ?_, p1 := H1.out.p1, area := ?_, dis := ?_, hlw := by show y'.lw ≤ _; rw [FO.lw]; exact H1.out.hlw }
        · have h1 : PBox' w3 x.pp x.pf := HB2.out.kept f3 (nin _ _ _ HB2.out (by decide) (by decide))
          have h2 : (x.saved { y' with O := Dv.Tab.put y'.O ((x.start : Int) + (f.pg : Int)) f.l } j f).pf = x.pf := by
            show Pf.mk y'.d y'.p x.start x.pages x.most x.rp x.mp = Pf.mk x.y.d x.y.p x.start x.pages x.most x.rp x.mp
            rw [FO.d, FO.p]
          show PBox' w3 x.pp _
          rw [h2]
          exact h1
        · obtain ⟨S, hm2, ht⟩ := M2
          exact ⟨S, hm2.kept f3 (hbo S hm2), by show TabOk S (ids (x.fs.set j { f with fst := 0 })); rw [ids_set (f' := { f with fst := 0 }) hj rfl rfl]; exact ht⟩
        · show x.mp ≠ y'.bs ∧ x.mp ≠ y'.bo
          rw [FO.bs, FO.bo]
          exact H1.out.mne
        · show ((ids (x.fs.set j { f with fst := 0 })).map (·.1)).Nodup
          rw [ids_set (f' := { f with fst := 0 }) hj rfl rfl]
          exact H1.out.nod
        · intro g hg
          rcases mem_set hj hg with rfl | ⟨i, hi, hgi⟩
          · exact ⟨hok.pg, hok.h0, hok.h1, Int.le_refl _, hok.l0, by show f.lst ≤ (y'.E : Int); rw [FO.E]; exact hok.l1, fun _ => by show f.l = Dv.latest y'.S (Dv.Tab.put y'.O ((x.start : Int) + (f.pg : Int)) f.l) ((x.start : Int) + (f.pg : Int)); rw [latest_put, if_pos rfl]⟩
          · have hgo := H1.out.ok g (List.mem_of_getElem? hgi)
            have hne := pg_ne H1.out.nod hgi hj hi
            refine hgo.turn (hk'.put (by have := H1.out.hlw; omega)) ?_
            show Dv.latest y'.S (Dv.Tab.put y'.O ((x.start : Int) + (f.pg : Int)) f.l) ((x.start : Int) + (g.pg : Int)) = _
            rw [latest_put, if_neg (by omega)]
            exact FO.pg H1.out.dis hgo.pg
        · show (x.fs.set j _).length ≤ x.most
          rw [List.length_set]
          exact H1.out.hl
        · show (x.fs.set j _).length = x.most → _
          rw [List.length_set]
          exact H1.out.hh
        · show (x.fs.set j _).length < x.most → _
          rw [List.length_set]
          exact H1.out.hh0
        · show (x.start : Int) + (x.pages : Int) ≤ y'.nb
          rw [FO.nb]
          exact H1.out.area
        · show (x.start : Int) + (x.pages : Int) ≤ y'.first ∨ y'.first + y'.count ≤ (x.start : Int)
          rw [FO.first, FO.count]
          exact H1.out.dis
      · have q1 : Fr x.own w w1 := fa.mono (fun _ _ e => nomatch e)
        have q2 : Fr x.own w1 w2 := f2.mono (fun k _ hk => by simp only [Po.own, List.mem_cons, List.mem_append]; exact Or.inr (Or.inr (hL4 _ hk)))
        have q3 : Fr x.own w2 w3 := f3.mono (fun k _ hk => by
          simp only [List.mem_cons, List.not_mem_nil, or_false] at hk
          rcases hk with rfl | rfl | rfl
          · simp only [Po.own, List.mem_cons, List.mem_append]
            exact Or.inr (Or.inr (hL4 _ (by simp [Po.pf])))
          · rw [FO.bo]
            simp only [Po.own, List.mem_cons, List.mem_append]
            exact Or.inr (Or.inr (hL4 _ (by simp)))
          · exact own_b hj)
        exact (q1.trans q2).trans q3
      · intro k hk
        have hk2 : k = x.mp ∨ k ∈ ownR x.rp x.sa (x.fs.set j { f with fst := 0 }) ∨ k ∈ y'.own := by
          simpa [Po.own, Po.saved, Lo.own] using hk
        rw [ownR_set (f' := { f with fst := 0 }) hj rfl] at hk2
        simp only [Po.own, List.mem_cons, List.mem_append]
        rcases hk2 with h1 | h1 | h1
        · exact Or.inl (Or.inl h1)
        · exact Or.inl (Or.inr (Or.inl h1))
        · rcases hown k h1 with h2 | h2
          · exact Or.inl (Or.inr (Or.inr h2))
          · exact Or.inr (Nat.le_trans fa.size h2)
      · have hk' := FO.kin
        exact hk'.put (by have := H1.out.hlw; omega)
      · intro q hq hne
        show Dv.latest y'.S (Dv.Tab.put y'.O ((x.start : Int) + (f.pg : Int)) f.l) ((x.start : Int) + (q : Int)) = _
        rw [latest_put, if_neg (by omega)]
        exact FO.pg H1.out.dis hq
      · show Dv.latest y'.S (Dv.Tab.put y'.O ((x.start : Int) + (f.pg : Int)) f.l) ((x.start : Int) + (f.pg : Int)) = f.l
        rw [latest_put, if_pos rfl]
      · intro _
        exact hP f (by simp)
  · have hdt : decide (0 < f.fst) = false := decide_eq_false hd
    have h0 : f.fst = 0 := by have := hok.f0; omega
    have e1 : x.saved x.y j f = x := by
      have : { f with fst := 0 } = f := by rw [← h0]
      unfold Po.saved
      rw [this, set_same hj]
    clear h hfa
    go_enter Tryz.func249, Tryz.ntmps249
    go_wp2_with (go_at_call 187; refine (dirty_any HFA.out).mono ?_; rw [hdt]; rintro e wz ⟨rfl, hz⟩; rw [hz]; clear hz)
    go_ret
    exact ⟨rfl, x.y, by rw [e1]; exact ⟨HH.out, Fr.refl _ _, fun k hk => Or.inl hk⟩, Kin.refl _, fun _ _ _ => rfl, (hok.cl h0).symm, fun h1 => by omega⟩
end Go.Proofs.YtopaeomjndblkaaGreat

