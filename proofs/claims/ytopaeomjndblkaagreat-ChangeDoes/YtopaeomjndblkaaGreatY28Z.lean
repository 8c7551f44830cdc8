/-
  A dirty page written; all of them.
-/
import Derived.Test.YtopaeomjndblkaaGreatY27Z
import Derived.Shelf.SlSortCmp.Whole1
namespace Go.Proofs.YtopaeomjndblkaaGreat
open Go.RowKit Go.Maps Go.Sort

theorem fr_sort {α : Type} [Inhabited α] (enc : α → Value) (w : World) (blk off m : Nat) (dk : Array α) (os : Array Obj) : Fr [blk] w (sortWorld enc w blk off m dk os) := by
  refine ⟨rfl, rfl, rfl, ?_, ?_⟩
  · show w.heap.size ≤ ((w.heap.modify blk _) ++ os).size
    simp
  · intro i hi hn
    show ((w.heap.modify blk _) ++ os)[i]? = w.heap[i]?
    rw [Array.getElem?_append_left (by simpa using hi), Array.getElem?_modify, if_neg (fun e => hn (by simp [e]))]
def cfP (F : Nat → Fm) (i j : Nat) : Int := cmpP (F i).pg (F j).pg
theorem lt_cfP (F : Nat → Fm) (i j : Nat) : ltOf (cfP F) i j = decide ((F i).pg < (F j).pg) := by
  unfold ltOf cfP cmpP
  by_cases h1 : (F i).pg < (F j).pg
  · simp [h1]
  · by_cases h2 : (F j).pg < (F i).pg <;> simp [h1, h2]
theorem swo_cfP (F : Nat → Fm) : SWO (ltOf (cfP F)) where
  irrefl x := by rw [lt_cfP]; simp
  trans x y z h1 h2 := by rw [lt_cfP] at *; simp at *; omega
  ntrans x y z h1 h2 := by rw [lt_cfP] at *; simp at *; omega
def encF (F : Nat → Fm) (k : Nat) : Value := .pointer (some ⟨(F k).b, 0, none⟩)
theorem sort_any {w : World} (g cap n : Nat) (ds : List Fm) (hl : ds.length = n) (h0 : 0 < n) (hn : n ≤ 1024) (cur : Array Value) (hrow : w.heap[g]? = some (.cells cur 159)) (htk : cur.toList.take n = slV ds) (hF : ∀ f ∈ ds, FAt w f) :
    Calls Tryz.prog 188 #[.slice (some ⟨g, 0, none⟩) n cap, .func (.func 189) #[] #[]] w fun e w' => e = .returned (.tuple #[]) ∧ ∃ ds' : List Fm, ds'.Perm ds ∧ ds'.Pairwise (fun a b => a.pg ≤ b.pg) ∧ (∀ (j : Nat) (f : Fm), ds'[j]? = some f → w'.cell? ⟨g, j, none⟩ = some (.pointer (some ⟨f.b, 0, none⟩))) ∧ Fr [g] w w' := by
  obtain ⟨f0, hf0⟩ : ∃ f0, ds[0]? = some f0 := ⟨_, List.getElem?_eq_getElem (by omega)⟩
  let F : Nat → Fm := fun k => (ds[k]?).getD f0
  have hFm : ∀ k, F k ∈ ds := fun k => by
    show (ds[k]?).getD f0 ∈ ds
    cases hk : ds[k]? with
    | some f => exact List.mem_of_getElem? hk
    | none => exact List.mem_of_getElem? hf0
  have hcell : ∀ j, j < n → w.cell? ⟨g, j, none⟩ = some (encF F j) := fun j hj => by
    rw [cell_of_row w g j _ _ _ hrow]
    have h1 : (cur.toList.take n)[j]? = (slV ds)[j]? := by rw [htk]
    rw [List.getElem?_take, if_pos hj] at h1
    have h2 : (slV ds)[j]? = some (encF F j) := by
      unfold slV encF
      rw [List.getElem?_map]
      show Option.map _ ds[j]? = some (Value.pointer (some ⟨((ds[j]?).getD f0).b, 0, none⟩))
      rw [List.getElem?_eq_getElem (by omega)]
      rfl
    rw [h2] at h1
    simpa using h1
  have hfr : ∀ j, w.frozen? ⟨g, j, none⟩ = false := fun j => frozen_of_row w g j _ _ hrow
  have hrg : ∀ j, j < (Array.range n).size → (Array.range n)[j]! = j := fun j hj => by
    rw [getElem!_pos (Array.range n) j hj]
    simp
  have hH : Holds (encF F) w g 0 (Array.range n) := fun j hj => by
    rw [hrg j hj, Nat.zero_add]
    exact ⟨hcell j (by simpa using hj), hfr j⟩
  have hne : ∀ f ∈ ds, f.b ∉ [g] := fun f hf e => by
    simp at e
    exact (hF f hf).tyne hrow (by decide) e
  have eg : ∀ args w, (callFunc 189 args).run Tryz.prog w = .ok (.enter 189 args) w := enters_of Tryz.func189 (by kernel_rfl) rfl
  have hcmp : CmpReads Tryz.prog 189 #[] (encF F) (cfP F) g 0 (Array.range n).size w := fun m os dk _ x y => rising1_any ((hF _ (hFm x)).kept (fr_sort _ w g 0 m dk os) (hne _ (hFm x))) ((hF _ (hFm y)).kept (fr_sort _ w g 0 m dk os) (hne _ (hFm y)))
  have hcon := Any.slices_SortFunc Tryz.laysSort (encF F) (fun _ => rfl) (cfP F) (swo_cfP F) 189 #[] g 0 cap (Array.range n) w eg hcmp.lays hH (Array.getElem?_eq_some_iff.1 hrow).1 (by simp; omega)
  change Calls Tryz.prog 188 _ _ _ at hcon
  rw [Array.size_range] at hcon
  refine hcon.mono ?_
  rintro e w' ⟨rfl, d', m, os, hp, hs, rfl⟩
  have hsz : d'.size = n := by rw [hp.1]; simp
  have hpd : d'.toList.Perm (List.range n) := by
    have h1 := hp.2.2
    have e1 : (d'.extract 0 n) = d' := by rw [← hsz]; simp
    have e2 : (Array.range n).extract 0 n = Array.range n := by
      have : n = (Array.range n).size := by simp
      conv => lhs; arg 3; rw [this]
      simp
    rw [e1, e2] at h1
    simpa using h1
  refine ⟨rfl, d'.toList.map F, ?_, ?_, ?_, fr_sort _ _ _ _ _ _ _⟩
  · have h1 := hpd.map F
    have h2 : (List.range n).map F = ds := by
      apply List.ext_getElem?
      intro i
      rw [List.getElem?_map]
      by_cases hi : i < n
      · rw [List.getElem?_range hi, List.getElem?_eq_getElem (by omega)]
        show some ((ds[i]?).getD f0) = _
        rw [List.getElem?_eq_getElem (by omega)]
        rfl
      · rw [List.getElem?_eq_none (by simpa using hi), List.getElem?_eq_none (by omega)]
        rfl
    rw [h2] at h1
    exact h1
  · rw [List.pairwise_iff_getElem]
    intro i j hi hj hij
    simp only [List.length_map, Array.length_toList] at hi hj
    have h1 := hs i j (Nat.zero_le _) hij (by omega)
    rw [lt_cfP, getElem!_pos _ _ (by omega), getElem!_pos _ _ (by omega)] at h1
    simp at h1
    simpa using h1
  · intro j f hj
    rw [List.getElem?_map] at hj
    have hjn : j < n := by
      rcases Nat.lt_or_ge j n with h | h
      · exact h
      · rw [List.getElem?_eq_none (by simp; omega)] at hj
        cases hj
    have hh : Holds (encF F) (sortWorld (encF F) w g 0 m d' os) g 0 d' := by
      unfold sortWorld
      refine holds_grow _ _ _ _ _ _ ?_ (holds_putRow _ _ _ _ (Array.range n) d' hH (by rw [hsz]; simp))
      show g < (w.heap.modify g _).size
      simpa using (Array.getElem?_eq_some_iff.1 hrow).1
    have h1 := (hh j (by omega)).1
    rw [Nat.zero_add] at h1
    rw [h1]
    rw [List.getElem?_eq_getElem (by simp; omega)] at hj
    simp at hj
    rw [getElem!_pos _ _ (by omega), ← hj]
    rfl
end Go.Proofs.YtopaeomjndblkaaGreat

namespace Go.Proofs.YtopaeomjndblkaaGreat
open Go.RowKit Go.Maps

def dirtyB (f : Fm) : Bool := decide (0 < f.fst)
/-- The dirty frames of a pool. -/
def dirtyL (fs : List Fm) : List Fm := fs.filter dirtyB
theorem dirty_take {fs : List Fm} {i : Nat} {f : Fm} (h : fs[i]? = some f) : dirtyL (fs.take (i + 1)) = dirtyL (fs.take i) ++ (if dirtyB f then [f] else []) := by
  unfold dirtyL
  rw [List.take_add_one, h, List.filter_append]
  cases hd : dirtyB f <;> simp [hd]
/-- A row of frames in a slice that is new. -/
structure FRow (w0 w : World) (ad : Option Addr) (n c : Nat) (ds : List Fm) : Prop where
  own : w.ownsRow 0 159 1 (.slice ad n c) n (slV ds)
  new : ∀ g ∈ (Value.ownBlock (.slice ad n c)).toList, w0.heap.size ≤ g
  fr : Fr [] w0 w
  len : ds.length = n
  nl : n = 0 → ad = none ∧ c = 0
theorem FRow.nil (w : World) : FRow w w none 0 0 [] := ⟨⟨by simp [slV], Or.inl ⟨rfl, rfl⟩⟩, fun g hg => (nomatch hg), Fr.refl _ _, rfl, fun _ => ⟨rfl, rfl⟩⟩
/-- The rising frames, as a slice of pointers. -/
structure RRow (w0 w : World) (ad : Option Addr) (ds : List Fm) : Prop where
  cell : ∀ (j : Nat) (f : Fm), ds[j]? = some f → ∃ g, ad = some ⟨g, 0, none⟩ ∧ w.cell? ⟨g, j, none⟩ = some (.pointer (some ⟨f.b, 0, none⟩))
  new : ∀ g o, ad = some ⟨g, o, none⟩ → w0.heap.size ≤ g
  fr : Fr [] w0 w
structure Rising (fs ds : List Fm) : Prop where
  perm : ds.Perm (dirtyL fs)
  up : ds.Pairwise (fun a b => a.pg ≤ b.pg)
set_option maxHeartbeats 2000000 in
set_option maxRecDepth 100000 in
theorem rising_any {w : World} {x : Po} (h : PoAt w x) : Calls Tryz.prog 86 #[.pointer (some ⟨x.pp, 0, none⟩)] w fun e w' => ∃ (ad : Option Addr) (n c : Nat) (ds : List Fm), e = .returned (.slice ad n c) ∧ ds.length = n ∧ n ≤ c ∧ RRow w w' ad ds ∧ Rising x.fs ds := by
  have c5 := h.box.c5
  have r0 : w.cell? ⟨x.pf.rp, 0, none⟩ = some (.slice x.sa x.fs.length x.sc) := h.rn.r0
  have HH := hidI h
  obtain ⟨n, HN⟩ : ∃ n, Hid (x.fs.length = n) := ⟨_, rfl⟩
  rw [HN.out] at r0
  have hn : n ≤ 1024 := by have h1 := h.hl; have h2 := h.m1; have := HN.out; omega
  clear h
  go_enter Tryz.func86, Tryz.ntmps86
  go_wp2_with fail
  go_loopw [3, 14] (fun s3 s14 wr => ∃ (i : Nat) (ad : Option Addr) (m c : Nat), i ≤ n ∧ m ≤ i ∧ s3 = .slice ad m c ∧ s14 = .int .i64 (i : Int) ∧ Hid (FRow w wr ad m c (dirtyL (x.fs.take i)))) (fun _ s14 _ => n - (intOf s14).toNat)
  case atStart => exact ⟨0, none, 0, 0, by omega, by omega, rfl, rfl, hidI (FRow.nil w)⟩
  case round =>
    obtain ⟨i, ad, m, c, hi, hmi, rfl, rfl, R⟩ := hrel
    by_cases hlt : i < n
    · have q1 : (i : Int) < (n : Int) := by omega
      have q0 : (0 : Int) ≤ (i : Int) := by omega
      have hwi : IntKind.i64.wrap ((i : Int) + 1) = (i : Int) + 1 := wrapI _ (by omega) (by omega)
      obtain ⟨f, hf⟩ : ∃ f, x.fs[i]? = some f := ⟨_, List.getElem?_eq_getElem (by have := HN.out; omega)⟩
      have HR := hidI (HH.out.kept R.out.fr (by simp))
      obtain ⟨g, cur, hsa, hg, hsc, hmx, hsz, htk⟩ := HR.out.rn.at (by have := HN.out; omega)
      have cj := row_cell hg htk hf
      have FA := hidI (HR.out.rn.frames f (List.mem_of_getElem? hf))
      have HTK := hidI (dirty_take hf)
      clear hg htk hsz
      rw [hsa]
      by_cases hd : 0 < f.fst
      · have hdt : decide (0 < f.fst) = true := decide_eq_true hd
        have HDB : Hid (dirtyL (x.fs.take (i + 1)) = dirtyL (x.fs.take i) ++ [f]) := hidI (by rw [HTK.out]; unfold dirtyB; rw [hdt]; rfl)
        have FA1 := hidI ((Fr.refl [] wr).alloc (.cells #[.pointer (some ⟨f.b, 0, none⟩)] 159))
        go_wp2_with (first
          | (go_at_call 187; refine (dirty_any FA.out).mono ?_; rw [hdt]; rintro e wz ⟨rfl, hz⟩; rw [hz]; clear hz)
          | (refine wp_appF rfl _ _ rfl ad m c (dirtyL (x.fs.take i)) wr.heap.size f rfl rfl (own0_kept (L := []) R.out.own FA1.out (fun g' hg' => nomatch hg')) (heap_alloc_new wr _) (by omega) ?_; intro g5 c5 w5 o5 f5 n5))
        refine ⟨⟨i + 1, some ⟨g5, 0, none⟩, m + 1, c5, by omega, by omega, by first | rfl | trivial, by go_num, hidI ⟨?_, ?_, ?_, ?_, fun h => absurd h (by omega)⟩⟩, by simp [intOf]; omega⟩
        · rw [HDB.out]
          exact o5
        · intro k hk
          simp [Value.ownBlock] at hk
          subst hk
          rcases n5 with h1 | h1
          · exact R.out.new _ (by rw [h1]; simp)
          · have := R.out.fr.size
            simp at h1
            omega
        · refine (R.out.fr.trans FA1.out).then f5 (fun k hk hm => ?_)
          have := R.out.new k hm
          omega
        · rw [HDB.out, List.length_append, R.out.len]
          rfl
      · have hdt : decide (0 < f.fst) = false := decide_eq_false hd
        have HDB : Hid (dirtyL (x.fs.take (i + 1)) = dirtyL (x.fs.take i)) := hidI (by rw [HTK.out]; unfold dirtyB; rw [hdt]; simp)
        go_wp2_with (go_at_call 187; refine (dirty_any FA.out).mono ?_; rw [hdt]; rintro e wz ⟨rfl, hz⟩; rw [hz]; clear hz)
        refine ⟨⟨i + 1, ad, m, c, by omega, by omega, by first | rfl | trivial, by go_num, hidI ?_⟩, by simp [intOf]; omega⟩
        rw [HDB.out]
        exact R.out
    · have q1 : ¬ (i : Int) < (n : Int) := by omega
      have hin : i = n := by omega
      have HALL : Hid (dirtyL (x.fs.take i) = dirtyL x.fs) := hidI (by rw [List.take_of_length_le (by have := HN.out; omega)])
      have hlen := R.out.len
      by_cases hm0 : m = 0
      · subst hm0
        obtain ⟨rfl, rfl⟩ := R.out.nl rfl
        go_wp2_with (go_at_call 188; refine (sort_zero _ _).mono ?_; rintro e wz ⟨rfl, hz⟩; rw [hz]; clear hz)
        go_ret
        refine ⟨none, 0, 0, [], rfl, rfl, Nat.le_refl _, ⟨fun j f hj => by simp at hj, fun g' o e => (nomatch e), R.out.fr⟩, ⟨?_, List.Pairwise.nil⟩⟩
        rw [← HALL.out, List.eq_nil_of_length_eq_zero hlen]
      · obtain ⟨g, cur, hsa, hg, hmc, htk⟩ : ∃ g cur, ad = some ⟨g, 0, none⟩ ∧ wr.heap[g]? = some (.cells cur 159) ∧ m ≤ c ∧ cur.toList.take m = slV (dirtyL (x.fs.take i)) := by
          rcases R.out.own.2 with ⟨e, h1⟩ | ⟨g, c', cur, e, hb, hg, hnc, hcm, hcs, ht⟩
          · omega
          · cases e
            exact ⟨g, cur, rfl, hg, hnc, by rw [Nat.mul_one] at ht; exact ht⟩
        subst hsa
        have HS := hidI (sort_any g c m (dirtyL (x.fs.take i)) hlen (by omega) (by omega) cur hg htk (fun f hf => ((HH.out.kept R.out.fr (by simp)).rn.frames f (by
          have h1 : f ∈ x.fs.take i := (List.mem_filter.1 hf).1
          exact List.mem_of_mem_take h1))))
        have hgn := hidI (R.out.new g (by simp [Value.ownBlock]))
        clear hg htk
        go_wp2_with (go_at_call 188; refine HS.out.mono ?_; rintro e w5 ⟨rfl, ds', hp, hup, hc, f5⟩)
        go_ret
        refine ⟨_, _, _, ds', rfl, ?_, hmc, ⟨fun j f hj => ⟨g, rfl, hc j f hj⟩, fun g' o e => by cases e; exact hgn.out, R.out.fr.then f5 (fun k hk hm => by simp at hm; subst hm; have := hgn.out; omega)⟩, ⟨by rw [← HALL.out]; exact hp, hup⟩⟩
        rw [hp.length_eq]
        exact hlen
end Go.Proofs.YtopaeomjndblkaaGreat

namespace Go.Proofs.YtopaeomjndblkaaGreat
open Go.RowKit Go.Maps

set_option maxHeartbeats 2000000 in
theorem pwrite_step {w : World} {x : Po} (h : PoAt w x) {j : Nat} {f : Fm} (hj : x.fs[j]? = some f) :
    Calls Tryz.prog 173 #[.pointer (some ⟨x.pp, 0, none⟩), .pointer (some ⟨f.b, 0, none⟩)] w fun e w' => e = .returned (.int .i64 0) ∧ Step w w' x (x.saved { x.y with O := Dv.Tab.put x.y.O ((x.start : Int) + (f.pg : Int)) f.l } j f) := by
  have hm := List.mem_of_getElem? hj
  have hfa := h.rn.frames f hm
  have hok := h.ok f hm
  have FO := Forced.refl x.y
  have HD2 : Hid (Dv.Dev w x.pf.d x.y.bs x.y.bo x.y.nb 0 false x.y.S x.y.O) := hidI h.lo.dev
  have HF2 := hidI hfa
  have HR2 := hidI h.rn
  have HB2 := hidI h.box
  have M2 := h.mp
  have hkn : (x.pf.start : Int) + (f.pg : Int) < x.y.nb := by
    have h1 := h.area
    have h2 := hok.pg
    show (x.start : Int) + (f.pg : Int) < x.y.nb
    omega
  refine (pwrite_any HB2.out HD2.out HF2.out hkn).mono ?_
  rintro e w3 ⟨rfl, D3, F3, f3⟩
  have hbo : ∀ S, pMap w x.mp S → x.mp ∉ [x.pf.d, x.y.bo, f.b] := by
    intro S hS e
    simp only [List.mem_cons, List.not_mem_nil, or_false] at e
    rcases e with e | e | e
    · have h1 := HD2.out.cells
      rw [← e] at h1
      exact hS.notcells _ _ h1
    · rw [FO.bo] at e
      exact h.mne.2 e
    · have h1 := HF2.out.at'
      rw [← e] at h1
      exact hS.notcells _ _ h1
  have hty : ∀ (t : TypeId), t ≠ 180 → t ≠ 162 → ∀ g ∈ [x.pf.d, x.y.bo, f.b], ∀ cur t', w.heap[g]? = some (.cells cur t') → t' ≠ t := by
    intro t h1 h2 g hg cur t' e et
    subst et
    simp only [List.mem_cons, List.not_mem_nil, or_false] at hg
    rcases hg with rfl | rfl | rfl
    · rw [HD2.out.cells] at e
      cases e
      exact h1 rfl
    · obtain ⟨D', ⟨es, clock, hb, _⟩, _⟩ := HD2.out.opn
      rw [hb] at e
      cases e
    · rw [HF2.out.at'] at e
      cases e
      exact h2 rfl
  have nin : ∀ k cur t, w.heap[k]? = some (.cells cur t) → t ≠ 180 → t ≠ 162 → k ∉ [x.pf.d, x.y.bo, f.b] := fun k cur t hc h1 h2 hk => hty t h1 h2 k hk cur t hc rfl
  refine ⟨rfl, ?_, ?_, ?_⟩
  · have L2 := h.lo
    have LO : LoAt w3 { x.y with O := Dv.Tab.put x.y.O ((x.start : Int) + (f.pg : Int)) f.l } :=
      { L2 with
        dev := by
          have h1 := D3
          rw [show x.pf.d = x.y.d from FO.d.symm] at h1
          exact h1
        box := L2.box.kept f3 (nin _ _ _ L2.box (by decide) (by decide))
        bsA := own0_kept L2.bsA f3 (hty 5 (by decide) (by decide))
        lsA := own0_kept L2.lsA f3 (hty 2 (by decide) (by decide)) }
    have hrn : ∀ k ∈ ownR x.rp x.sa x.fs, k ≠ f.b → k ∉ [x.pf.d, x.y.bo, f.b] := by
      intro k hk hne e
      simp only [List.mem_cons, List.not_mem_nil, or_false] at e
      obtain ⟨cur, t, hc, ht⟩ := HR2.out.types k hk
      rcases e with e | e | e
      · rw [e, HD2.out.cells] at hc
        cases hc
        exact absurd ht (by decide)
      · obtain ⟨D', ⟨es, clock, hb, _⟩, _⟩ := HD2.out.opn
        rw [e, hb] at hc
        cases hc
      · exact hne e
    have hk' := FO.kin
    refine { lo := LO, box := ?_, rn := HR2.out.setF' hj rfl F3 f3 hrn, mp := ?_, mne := ?_, nod := ?_, ok := ?_, hl := ?_, m0 := h.m0, m1 := h.m1, hh := ?_, hh0 := ?_, p1 := h.p1, area := ?_, dis := ?_, hlw := h.hlw }
    · have h1 : PBox' w3 x.pp x.pf := HB2.out.kept f3 (nin _ _ _ HB2.out (by decide) (by decide))
      have h2 : (x.saved { x.y with O := Dv.Tab.put x.y.O ((x.start : Int) + (f.pg : Int)) f.l } j f).pf = x.pf := by
        show Pf.mk x.y.d x.y.p x.start x.pages x.most x.rp x.mp = Pf.mk x.y.d x.y.p x.start x.pages x.most x.rp x.mp
        rw [FO.d, FO.p]
      show PBox' w3 x.pp _
      rw [h2]
      exact h1
    · obtain ⟨S, hm2, ht⟩ := M2
      exact ⟨S, hm2.kept f3 (hbo S hm2), by show TabOk S (ids (x.fs.set j { f with fst := 0 })); rw [ids_set (f' := { f with fst := 0 }) hj rfl rfl]; exact ht⟩
    · show x.mp ≠ x.y.bs ∧ x.mp ≠ x.y.bo
      rw [FO.bs, FO.bo]
      exact h.mne
    · show ((ids (x.fs.set j { f with fst := 0 })).map (·.1)).Nodup
      rw [ids_set (f' := { f with fst := 0 }) hj rfl rfl]
      exact h.nod
    · intro g hg
      rcases mem_set hj hg with rfl | ⟨i, hi, hgi⟩
      · exact ⟨hok.pg, hok.h0, hok.h1, Int.le_refl _, hok.l0, by show f.lst ≤ (x.y.E : Int); rw [FO.E]; exact hok.l1, fun _ => by show f.l = Dv.latest x.y.S (Dv.Tab.put x.y.O ((x.start : Int) + (f.pg : Int)) f.l) ((x.start : Int) + (f.pg : Int)); rw [latest_put, if_pos rfl]⟩
      · have hgo := h.ok g (List.mem_of_getElem? hgi)
        have hne := pg_ne h.nod hgi hj hi
        refine hgo.turn (hk'.put (by have := h.hlw; omega)) ?_
        show Dv.latest x.y.S (Dv.Tab.put x.y.O ((x.start : Int) + (f.pg : Int)) f.l) ((x.start : Int) + (g.pg : Int)) = _
        rw [latest_put, if_neg (by omega)]
        exact FO.pg h.dis hgo.pg
    · show (x.fs.set j _).length ≤ x.most
      rw [List.length_set]
      exact h.hl
    · show (x.fs.set j _).length = x.most → _
      rw [List.length_set]
      exact h.hh
    · show (x.fs.set j _).length < x.most → _
      rw [List.length_set]
      exact h.hh0
    · show (x.start : Int) + (x.pages : Int) ≤ x.y.nb
      rw [FO.nb]
      exact h.area
    · show (x.start : Int) + (x.pages : Int) ≤ x.y.first ∨ x.y.first + x.y.count ≤ (x.start : Int)
      rw [FO.first, FO.count]
      exact h.dis
  · refine f3.mono (fun k _ hk => ?_)
    simp only [List.mem_cons, List.not_mem_nil, or_false] at hk
    rcases hk with rfl | rfl | rfl
    · simp [Po.own, Lo.own, Po.pf]
    · simp [Po.own, Lo.own]
    · exact own_b hj
  · intro k hk
    have hk2 : k = x.mp ∨ k ∈ ownR x.rp x.sa (x.fs.set j { f with fst := 0 }) ∨ k ∈ x.y.own := by
      simpa [Po.own, Po.saved, Lo.own] using hk
    rw [ownR_set (f' := { f with fst := 0 }) hj rfl] at hk2
    left
    simp only [Po.own, List.mem_cons, List.mem_append]
    exact hk2
end Go.Proofs.YtopaeomjndblkaaGreat

