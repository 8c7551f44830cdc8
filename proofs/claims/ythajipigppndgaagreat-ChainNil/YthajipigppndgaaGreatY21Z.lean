/-
  Flush: all dirty pages are written, and synced.
-/
import Derived.Test.YthajipigppndgaaGreatY20Z
import Derived.Shelf.Small.Bits
import Derived.Shelf.Strconv.Itoa0
import Derived.Ground.Names2Prog
import Derived.Shelf.Slices.SearchI
import Derived.Ground.SlgnProg
import Derived.Shelf.SlicesE.Clone
import Derived.Shelf.SlSortCmp.Whole1
import Derived.Ground.SlsfProg
import Derived.Shelf.SlGeneric
import Derived.Test.YthajipigppndgaaGreatProg
namespace Go.Proofs.YthajipigppndgaaGreat
open Go.RowKit Go.Maps

def cmpP (a b : Nat) : Int := if a < b then -1 else if b < a then 1 else 0
set_option maxHeartbeats 400000 in
theorem nanI_any (w : World) (x : Int) : Calls Tryz.prog 272 #[.int .i64 x] w fun e w' => e = .returned (.bool false) ∧ w' = w := by
  have h : (x != x) = false := by simp
  go_enter Tryz.func272, Tryz.ntmps272
  go_wp2
  go_ret
  exact ⟨rfl, rfl⟩
set_option maxHeartbeats 400000 in
theorem compare_any (w : World) (a b : Nat) : Calls Tryz.prog 245 #[.int .i64 (a : Int), .int .i64 (b : Int)] w fun e w' => e = .returned (.int .i64 (cmpP a b)) ∧ w' = w := by
  unfold cmpP
  by_cases h1 : a < b
  · have q1 : (a : Int) < (b : Int) := by omega
    rw [if_pos h1]
    go_enter Tryz.func245, Tryz.ntmps245
    go_wp2_with (go_at_call 272; refine (nanI_any _ _).mono ?_; rintro e wz ⟨rfl, hz⟩; rw [hz]; clear hz)
    go_ret
    exact ⟨rfl, rfl⟩
  · have q1 : ¬ (a : Int) < (b : Int) := by omega
    rw [if_neg h1]
    by_cases h2 : b < a
    · have q2 : (b : Int) < (a : Int) := by omega
      rw [if_pos h2]
      go_enter Tryz.func245, Tryz.ntmps245
      go_wp2_with (go_at_call 272; refine (nanI_any _ _).mono ?_; rintro e wz ⟨rfl, hz⟩; rw [hz]; clear hz)
      go_ret
      exact ⟨rfl, rfl⟩
    · have q2 : ¬ (b : Int) < (a : Int) := by omega
      rw [if_neg h2]
      go_enter Tryz.func245, Tryz.ntmps245
      go_wp2_with (go_at_call 272; refine (nanI_any _ _).mono ?_; rintro e wz ⟨rfl, hz⟩; rw [hz]; clear hz)
      go_ret
      exact ⟨rfl, rfl⟩
set_option maxHeartbeats 1000000 in
theorem rising1_any {w : World} {f g : Fm} (hf : FAt w f) (hg : FAt w g) : Calls Tryz.prog 244 #[.pointer (some ⟨f.b, 0, none⟩), .pointer (some ⟨g.b, 0, none⟩)] w fun e w' => e = .returned (.int .i64 (cmpP f.pg g.pg)) ∧ ∃ q, w' = w.drewN q := by
  have c0 := hf.c0
  have d0 := hg.c0
  clear hf hg
  go_enter Tryz.func244, Tryz.ntmps244
  go_wp2_with fail
  go_quiet ((go_at_call 245; exact Calls.quiet_of_same (compare_any _ _ _)))
  go_wp2
  go_ret
  exact ⟨rfl, _, rfl⟩
end Go.Proofs.YthajipigppndgaaGreat

namespace Go.Proofs
open Go.Shelf
def Tryz.laysSort_ren : Go.Shelf.Ren := ⟨fun | 6 => 243 | 15 => 271 | 14 => 270 | 28 => 301 | 29 => 292 | 20 => 293 | 21 => 294 | 22 => 295 | 23 => 296 | 24 => 297 | 25 => 298 | 26 => 299 | 27 => 300 | 46 => 304 | 47 => 305 | 48 => 306 | 49 => 307 | 50 => 308 | 57 => 309 | n => n, fun | 22 => 220 | 24 => 195 | 25 => 317 | 3 => 3 | 39 => 129 | 0 => 0 | 53 => 311 | 55 => 177 | 4 => 4 | 46 => 361 | 45 => 360 | 50 => 207 | 5 => 5 | 9 => 9 | 66 => 370 | 70 => 374 | 76 => 376 | 77 => 377 | n => n, fun | n => n⟩
theorem Tryz.laysSort : Go.Proofs.SlLaysF.n6 Tryz.prog Tryz.laysSort_ren := {
  mixed := by kernel_rfl
  f6 := ⟨Tryz.f243.name, by decide, Tryz.func243.trans (congrArg some (by kernel_rfl))⟩
  f14 := ⟨Tryz.f270.name, by decide, Tryz.func270.trans (congrArg some (by kernel_rfl))⟩
  f15 := Tryz.func271.trans (congrArg some (by kernel_rfl))
  f20 := ⟨Tryz.f293.name, by decide, Tryz.func293.trans (congrArg some (by kernel_rfl))⟩
  f21 := ⟨Tryz.f294.name, by decide, Tryz.func294.trans (congrArg some (by kernel_rfl))⟩
  f22 := ⟨Tryz.f295.name, by decide, Tryz.func295.trans (congrArg some (by kernel_rfl))⟩
  f23 := ⟨Tryz.f296.name, by decide, Tryz.func296.trans (congrArg some (by kernel_rfl))⟩
  f24 := ⟨Tryz.f297.name, by decide, Tryz.func297.trans (congrArg some (by kernel_rfl))⟩
  f25 := ⟨Tryz.f298.name, by decide, Tryz.func298.trans (congrArg some (by kernel_rfl))⟩
  f26 := ⟨Tryz.f299.name, by decide, Tryz.func299.trans (congrArg some (by kernel_rfl))⟩
  f27 := ⟨Tryz.f300.name, by decide, Tryz.func300.trans (congrArg some (by kernel_rfl))⟩
  f28 := Tryz.func301.trans (congrArg some (by kernel_rfl))
  f29 := Tryz.func292.trans (congrArg some (by kernel_rfl))
  f46 := ⟨Tryz.f304.name, by decide, Tryz.func304.trans (congrArg some (by kernel_rfl))⟩
  f47 := Tryz.func305.trans (congrArg some (by kernel_rfl))
  f48 := Tryz.func306.trans (congrArg some (by kernel_rfl))
  f49 := ⟨Tryz.f307.name, by decide, Tryz.func307.trans (congrArg some (by kernel_rfl))⟩
  f50 := ⟨Tryz.f308.name, by decide, Tryz.func308.trans (congrArg some (by kernel_rfl))⟩
  f57 := ⟨Tryz.f309.name, by decide, Tryz.func309.trans (congrArg some (by kernel_rfl))⟩
  t0 := Tryz.underlying0
  a0 := Tryz.isAgg0
  z0 := Tryz.sizeOf0
  v0 := Tryz.zeroValue0
  t3 := Tryz.underlying3
  a3 := Tryz.isAgg3
  z3 := Tryz.sizeOf3
  v3 := Tryz.zeroValue3
  t4 := Tryz.underlying4
  a4 := Tryz.isAgg4
  z4 := Tryz.sizeOf4
  v4 := Tryz.zeroValue4
  t5 := Tryz.underlying5
  a5 := Tryz.isAgg5
  z5 := Tryz.sizeOf5
  v5 := Tryz.zeroValue5
  t9 := Tryz.underlying9
  a9 := Tryz.isAgg9
  z9 := Tryz.sizeOf9
  v9 := Tryz.zeroValue9
  t22 := Tryz.underlying220
  a22 := Tryz.isAgg220
  z22 := Tryz.sizeOf220
  v22 := Tryz.zeroValue220
  a24 := Tryz.isAgg195
  z24 := Tryz.sizeOf195
  t25 := Tryz.underlying317
  a25 := Tryz.isAgg317
  z25 := Tryz.sizeOf317
  v25 := Tryz.zeroValue317
  t39 := Tryz.underlying129
  a39 := Tryz.isAgg129
  z39 := Tryz.sizeOf129
  v39 := Tryz.zeroValue129
  t45 := Tryz.underlying360
  a45 := Tryz.isAgg360
  z45 := Tryz.sizeOf360
  v45 := Tryz.zeroValue360
  t46 := Tryz.underlying361
  a46 := Tryz.isAgg361
  z46 := Tryz.sizeOf361
  v46 := Tryz.zeroValue361
  t50 := Tryz.underlying207
  a50 := Tryz.isAgg207
  z50 := Tryz.sizeOf207
  v50 := Tryz.zeroValue207
  t53 := Tryz.underlying311
  a53 := Tryz.isAgg311
  z53 := Tryz.sizeOf311
  v53 := Tryz.zeroValue311
  t55 := Tryz.underlying177
  a55 := Tryz.isAgg177
  z55 := Tryz.sizeOf177
  v55 := Tryz.zeroValue177
  t66 := Tryz.underlying370
  a66 := Tryz.isAgg370
  z66 := Tryz.sizeOf370
  v66 := Tryz.zeroValue370
  t70 := Tryz.underlying374
  a70 := Tryz.isAgg374
  z70 := Tryz.sizeOf374
  v70 := Tryz.zeroValue374
  t76 := Tryz.underlying376
  a76 := Tryz.isAgg376
  z76 := Tryz.sizeOf376
  v76 := Tryz.zeroValue376
  t77 := Tryz.underlying377
  a77 := Tryz.isAgg377
  z77 := Tryz.sizeOf377
  v77 := Tryz.zeroValue377 }
end Go.Proofs

namespace Go.Proofs.YthajipigppndgaaGreat
open Go.RowKit Go.Maps Go.Sort

theorem fr_sort {α : Type} [Inhabited α] (enc : α → Value) (w : World) (blk off m : Nat) (dk : Array α) (os : Array Obj) : Fr [blk] w (sortWorld enc w blk off m dk os) := by
  refine ⟨rfl, rfl, rfl, ?_, ?_⟩
  · show w.heap.size ≤ ((w.heap.modify blk _) ++ os).size
    simp
  · intro i hi hn
    show ((w.heap.modify blk _) ++ os)[i]? = w.heap[i]?
    rw [Array.getElem?_append_left (by simpa using hi), Array.getElem?_modify, if_neg (fun e => hn (by simp [e]))]
def cfP (F : Nat → Fm) (i j : Nat) : Int := cmpP (F i).pg (F j).pg
theorem lt_cfP (F : Nat → Fm) (i j : Nat) : ltOf (cfP F) i j = decide ((F i).pg < (F j).pg) := by
  unfold ltOf cfP cmpP
  by_cases h1 : (F i).pg < (F j).pg
  · simp [h1]
  · by_cases h2 : (F j).pg < (F i).pg <;> simp [h1, h2]
theorem swo_cfP (F : Nat → Fm) : SWO (ltOf (cfP F)) where
  irrefl x := by rw [lt_cfP]; simp
  trans x y z h1 h2 := by rw [lt_cfP] at *; simp at *; omega
  ntrans x y z h1 h2 := by rw [lt_cfP] at *; simp at *; omega
def encF (F : Nat → Fm) (k : Nat) : Value := .pointer (some ⟨(F k).b, 0, none⟩)
theorem sort_any {w : World} (g cap n : Nat) (ds : List Fm) (hl : ds.length = n) (h0 : 0 < n) (hn : n ≤ 1024) (cur : Array Value) (hrow : w.heap[g]? = some (.cells cur 195)) (htk : cur.toList.take n = slV ds) (hF : ∀ f ∈ ds, FAt w f) :
    Calls Tryz.prog 243 #[.slice (some ⟨g, 0, none⟩) n cap, .func (.func 244) #[] #[]] w fun e w' => e = .returned (.tuple #[]) ∧ ∃ ds' : List Fm, ds'.Perm ds ∧ ds'.Pairwise (fun a b => a.pg ≤ b.pg) ∧ (∀ (j : Nat) (f : Fm), ds'[j]? = some f → w'.cell? ⟨g, j, none⟩ = some (.pointer (some ⟨f.b, 0, none⟩))) ∧ Fr [g] w w' := by
  obtain ⟨f0, hf0⟩ : ∃ f0, ds[0]? = some f0 := ⟨_, List.getElem?_eq_getElem (by omega)⟩
  let F : Nat → Fm := fun k => (ds[k]?).getD f0
  have hFm : ∀ k, F k ∈ ds := fun k => by
    show (ds[k]?).getD f0 ∈ ds
    cases hk : ds[k]? with
    | some f => exact List.mem_of_getElem? hk
    | none => exact List.mem_of_getElem? hf0
  have hcell : ∀ j, j < n → w.cell? ⟨g, j, none⟩ = some (encF F j) := fun j hj => by
    rw [cell_of_row w g j _ _ _ hrow]
    have h1 : (cur.toList.take n)[j]? = (slV ds)[j]? := by rw [htk]
    rw [List.getElem?_take, if_pos hj] at h1
    have h2 : (slV ds)[j]? = some (encF F j) := by
      unfold slV encF
      rw [List.getElem?_map]
      show Option.map _ ds[j]? = some (Value.pointer (some ⟨((ds[j]?).getD f0).b, 0, none⟩))
      rw [List.getElem?_eq_getElem (by omega)]
      rfl
    rw [h2] at h1
    simpa using h1
  have hfr : ∀ j, w.frozen? ⟨g, j, none⟩ = false := fun j => frozen_of_row w g j _ _ hrow
  have hrg : ∀ j, j < (Array.range n).size → (Array.range n)[j]! = j := fun j hj => by
    rw [getElem!_pos (Array.range n) j hj]
    simp
  have hH : Holds (encF F) w g 0 (Array.range n) := fun j hj => by
    rw [hrg j hj, Nat.zero_add]
    exact ⟨hcell j (by simpa using hj), hfr j⟩
  have hne : ∀ f ∈ ds, f.b ∉ [g] := fun f hf e => by
    simp at e
    exact (hF f hf).tyne hrow (by decide) e
  have eg : ∀ args w, (callFunc 244 args).run Tryz.prog w = .ok (.enter 244 args) w := enters_of Tryz.func244 (by kernel_rfl) rfl
  have hcmp : CmpReads Tryz.prog 244 #[] (encF F) (cfP F) g 0 (Array.range n).size w := fun m os dk _ x y => rising1_any ((hF _ (hFm x)).kept (fr_sort _ w g 0 m dk os) (hne _ (hFm x))) ((hF _ (hFm y)).kept (fr_sort _ w g 0 m dk os) (hne _ (hFm y)))
  have hcon := Any.slices_SortFunc Tryz.laysSort (encF F) (fun _ => rfl) (cfP F) (swo_cfP F) 244 #[] g 0 cap (Array.range n) w eg hcmp.lays hH (Array.getElem?_eq_some_iff.1 hrow).1 (by simp; omega)
  change Calls Tryz.prog 243 _ _ _ at hcon
  rw [Array.size_range] at hcon
  refine hcon.mono ?_
  rintro e w' ⟨rfl, d', m, os, hp, hs, rfl⟩
  have hsz : d'.size = n := by rw [hp.1]; simp
  have hpd : d'.toList.Perm (List.range n) := by
    have h1 := hp.2.2
    have e1 : (d'.extract 0 n) = d' := by rw [← hsz]; simp
    have e2 : (Array.range n).extract 0 n = Array.range n := by
      have : n = (Array.range n).size := by simp
      conv => lhs; arg 3; rw [this]
      simp
    rw [e1, e2] at h1
    simpa using h1
  refine ⟨rfl, d'.toList.map F, ?_, ?_, ?_, fr_sort _ _ _ _ _ _ _⟩
  · have h1 := hpd.map F
    have h2 : (List.range n).map F = ds := by
      apply List.ext_getElem?
      intro i
      rw [List.getElem?_map]
      by_cases hi : i < n
      · rw [List.getElem?_range hi, List.getElem?_eq_getElem (by omega)]
        show some ((ds[i]?).getD f0) = _
        rw [List.getElem?_eq_getElem (by omega)]
        rfl
      · rw [List.getElem?_eq_none (by simpa using hi), List.getElem?_eq_none (by omega)]
        rfl
    rw [h2] at h1
    exact h1
  · rw [List.pairwise_iff_getElem]
    intro i j hi hj hij
    simp only [List.length_map, Array.length_toList] at hi hj
    have h1 := hs i j (Nat.zero_le _) hij (by omega)
    rw [lt_cfP, getElem!_pos _ _ (by omega), getElem!_pos _ _ (by omega)] at h1
    simp at h1
    simpa using h1
  · intro j f hj
    rw [List.getElem?_map] at hj
    have hjn : j < n := by
      rcases Nat.lt_or_ge j n with h | h
      · exact h
      · rw [List.getElem?_eq_none (by simp; omega)] at hj
        cases hj
    have hh : Holds (encF F) (sortWorld (encF F) w g 0 m d' os) g 0 d' := by
      unfold sortWorld
      refine holds_grow _ _ _ _ _ _ ?_ (holds_putRow _ _ _ _ (Array.range n) d' hH (by rw [hsz]; simp))
      show g < (w.heap.modify g _).size
      simpa using (Array.getElem?_eq_some_iff.1 hrow).1
    have h1 := (hh j (by omega)).1
    rw [Nat.zero_add] at h1
    rw [h1]
    rw [List.getElem?_eq_getElem (by simp; omega)] at hj
    simp at hj
    rw [getElem!_pos _ _ (by omega), ← hj]
    rfl
end Go.Proofs.YthajipigppndgaaGreat

namespace Go.Proofs.YthajipigppndgaaGreat
open Go.RowKit Go.Maps

def dirtyB (f : Fm) : Bool := decide (0 < f.fst)
/-- The dirty frames of a pool. -/
def dirtyL (fs : List Fm) : List Fm := fs.filter dirtyB
theorem dirty_take {fs : List Fm} {i : Nat} {f : Fm} (h : fs[i]? = some f) : dirtyL (fs.take (i + 1)) = dirtyL (fs.take i) ++ (if dirtyB f then [f] else []) := by
  unfold dirtyL
  rw [List.take_add_one, h, List.filter_append]
  cases hd : dirtyB f <;> simp [hd]
/-- A row of frames in a slice that is new. -/
structure FRow (w0 w : World) (ad : Option Addr) (n c : Nat) (ds : List Fm) : Prop where
  own : w.ownsRow 0 195 1 (.slice ad n c) n (slV ds)
  new : ∀ g ∈ (Value.ownBlock (.slice ad n c)).toList, w0.heap.size ≤ g
  fr : Fr [] w0 w
  len : ds.length = n
  nl : n = 0 → ad = none ∧ c = 0
theorem FRow.nil (w : World) : FRow w w none 0 0 [] := ⟨⟨by simp [slV], Or.inl ⟨rfl, rfl⟩⟩, fun g hg => (nomatch hg), Fr.refl _ _, rfl, fun _ => ⟨rfl, rfl⟩⟩
/-- The rising frames, as a slice of pointers. -/
structure RRow (w0 w : World) (ad : Option Addr) (ds : List Fm) : Prop where
  cell : ∀ (j : Nat) (f : Fm), ds[j]? = some f → ∃ g, ad = some ⟨g, 0, none⟩ ∧ w.cell? ⟨g, j, none⟩ = some (.pointer (some ⟨f.b, 0, none⟩))
  new : ∀ g o, ad = some ⟨g, o, none⟩ → w0.heap.size ≤ g
  fr : Fr [] w0 w
structure Rising (fs ds : List Fm) : Prop where
  perm : ds.Perm (dirtyL fs)
  up : ds.Pairwise (fun a b => a.pg ≤ b.pg)
set_option maxHeartbeats 2000000 in
set_option maxRecDepth 100000 in
theorem rising_any {w : World} {x : Po} (h : PoAt w x) : Calls Tryz.prog 182 #[.pointer (some ⟨x.pp, 0, none⟩)] w fun e w' => ∃ (ad : Option Addr) (n c : Nat) (ds : List Fm), e = .returned (.slice ad n c) ∧ ds.length = n ∧ n ≤ c ∧ RRow w w' ad ds ∧ Rising x.fs ds := by
  have c5 := h.box.c5
  have r0 : w.cell? ⟨x.pf.rp, 0, none⟩ = some (.slice x.sa x.fs.length x.sc) := h.rn.r0
  have HH := hidI h
  obtain ⟨n, HN⟩ : ∃ n, Hid (x.fs.length = n) := ⟨_, rfl⟩
  rw [HN.out] at r0
  have hn : n ≤ 1024 := by have h1 := h.hl; have h2 := h.m1; have := HN.out; omega
  clear h
  go_enter Tryz.func182, Tryz.ntmps182
  go_wp2_with fail
  go_loopw [3, 14] (fun s3 s14 wr => ∃ (i : Nat) (ad : Option Addr) (m c : Nat), i ≤ n ∧ m ≤ i ∧ s3 = .slice ad m c ∧ s14 = .int .i64 (i : Int) ∧ Hid (FRow w wr ad m c (dirtyL (x.fs.take i)))) (fun _ s14 _ => n - (intOf s14).toNat)
  case atStart => exact ⟨0, none, 0, 0, by omega, by omega, rfl, rfl, hidI (FRow.nil w)⟩
  case round =>
    obtain ⟨i, ad, m, c, hi, hmi, rfl, rfl, R⟩ := hrel
    by_cases hlt : i < n
    · have q1 : (i : Int) < (n : Int) := by omega
      have q0 : (0 : Int) ≤ (i : Int) := by omega
      have hwi : IntKind.i64.wrap ((i : Int) + 1) = (i : Int) + 1 := wrapI _ (by omega) (by omega)
      obtain ⟨f, hf⟩ : ∃ f, x.fs[i]? = some f := ⟨_, List.getElem?_eq_getElem (by have := HN.out; omega)⟩
      have HR := hidI (HH.out.kept R.out.fr (by simp))
      obtain ⟨g, cur, hsa, hg, hsc, hmx, hsz, htk⟩ := HR.out.rn.at (by have := HN.out; omega)
      have cj := row_cell hg htk hf
      have FA := hidI (HR.out.rn.frames f (List.mem_of_getElem? hf))
      have HTK := hidI (dirty_take hf)
      clear hg htk hsz
      rw [hsa]
      by_cases hd : 0 < f.fst
      · have hdt : decide (0 < f.fst) = true := decide_eq_true hd
        have HDB : Hid (dirtyL (x.fs.take (i + 1)) = dirtyL (x.fs.take i) ++ [f]) := hidI (by rw [HTK.out]; unfold dirtyB; rw [hdt]; rfl)
        have FA1 := hidI ((Fr.refl [] wr).alloc (.cells #[.pointer (some ⟨f.b, 0, none⟩)] 195))
        go_wp2_with (first
          | (go_at_call 242; refine (dirty_any FA.out).mono ?_; rw [hdt]; rintro e wz ⟨rfl, hz⟩; rw [hz]; clear hz)
          | (refine wp_appF rfl _ _ rfl ad m c (dirtyL (x.fs.take i)) wr.heap.size f rfl rfl (own0_kept (L := []) R.out.own FA1.out (fun g' hg' => nomatch hg')) (heap_alloc_new wr _) (by omega) ?_; intro g5 c5 w5 o5 f5 n5))
        refine ⟨⟨i + 1, some ⟨g5, 0, none⟩, m + 1, c5, by omega, by omega, by first | rfl | trivial, by go_num, hidI ⟨?_, ?_, ?_, ?_, fun h => absurd h (by omega)⟩⟩, by simp [intOf]; omega⟩
        · rw [HDB.out]
          exact o5
        · intro k hk
          simp [Value.ownBlock] at hk
          subst hk
          rcases n5 with h1 | h1
          · exact R.out.new _ (by rw [h1]; simp)
          · have := R.out.fr.size
            simp at h1
            omega
        · refine (R.out.fr.trans FA1.out).then f5 (fun k hk hm => ?_)
          have := R.out.new k hm
          omega
        · rw [HDB.out, List.length_append, R.out.len]
          rfl
      · have hdt : decide (0 < f.fst) = false := decide_eq_false hd
        have HDB : Hid (dirtyL (x.fs.take (i + 1)) = dirtyL (x.fs.take i)) := hidI (by rw [HTK.out]; unfold dirtyB; rw [hdt]; simp)
        go_wp2_with (go_at_call 242; refine (dirty_any FA.out).mono ?_; rw [hdt]; rintro e wz ⟨rfl, hz⟩; rw [hz]; clear hz)
        refine ⟨⟨i + 1, ad, m, c, by omega, by omega, by first | rfl | trivial, by go_num, hidI ?_⟩, by simp [intOf]; omega⟩
        rw [HDB.out]
        exact R.out
    · have q1 : ¬ (i : Int) < (n : Int) := by omega
      have hin : i = n := by omega
      have HALL : Hid (dirtyL (x.fs.take i) = dirtyL x.fs) := hidI (by rw [List.take_of_length_le (by have := HN.out; omega)])
      have hlen := R.out.len
      by_cases hm0 : m = 0
      · subst hm0
        obtain ⟨rfl, rfl⟩ := R.out.nl rfl
        go_wp2_with (go_at_call 243; refine (sort_zero _ _).mono ?_; rintro e wz ⟨rfl, hz⟩; rw [hz]; clear hz)
        go_ret
        refine ⟨none, 0, 0, [], rfl, rfl, Nat.le_refl _, ⟨fun j f hj => by simp at hj, fun g' o e => (nomatch e), R.out.fr⟩, ⟨?_, List.Pairwise.nil⟩⟩
        rw [← HALL.out, List.eq_nil_of_length_eq_zero hlen]
      · obtain ⟨g, cur, hsa, hg, hmc, htk⟩ : ∃ g cur, ad = some ⟨g, 0, none⟩ ∧ wr.heap[g]? = some (.cells cur 195) ∧ m ≤ c ∧ cur.toList.take m = slV (dirtyL (x.fs.take i)) := by
          rcases R.out.own.2 with ⟨e, h1⟩ | ⟨g, c', cur, e, hb, hg, hnc, hcm, hcs, ht⟩
          · omega
          · cases e
            exact ⟨g, cur, rfl, hg, hnc, by rw [Nat.mul_one] at ht; exact ht⟩
        subst hsa
        have HS := hidI (sort_any g c m (dirtyL (x.fs.take i)) hlen (by omega) (by omega) cur hg htk (fun f hf => ((HH.out.kept R.out.fr (by simp)).rn.frames f (by
          have h1 : f ∈ x.fs.take i := (List.mem_filter.1 hf).1
          exact List.mem_of_mem_take h1))))
        have hgn := hidI (R.out.new g (by simp [Value.ownBlock]))
        clear hg htk
        go_wp2_with (go_at_call 243; refine HS.out.mono ?_; rintro e w5 ⟨rfl, ds', hp, hup, hc, f5⟩)
        go_ret
        refine ⟨_, _, _, ds', rfl, ?_, hmc, ⟨fun j f hj => ⟨g, rfl, hc j f hj⟩, fun g' o e => by cases e; exact hgn.out, R.out.fr.then f5 (fun k hk hm => by simp at hm; subst hm; have := hgn.out; omega)⟩, ⟨by rw [← HALL.out]; exact hp, hup⟩⟩
        rw [hp.length_eq]
        exact hlen
end Go.Proofs.YthajipigppndgaaGreat

namespace Go.Proofs.YthajipigppndgaaGreat
open Go.RowKit Go.Maps

set_option maxHeartbeats 2000000 in
theorem pwrite_step {w : World} {x : Po} (h : PoAt w x) {j : Nat} {f : Fm} (hj : x.fs[j]? = some f) :
    Calls Tryz.prog 184 #[.pointer (some ⟨x.pp, 0, none⟩), .pointer (some ⟨f.b, 0, none⟩)] w fun e w' => e = .returned (.int .i64 0) ∧ Step w w' x (x.saved { x.y with O := Dv.Tab.put x.y.O ((x.start : Int) + (f.pg : Int)) f.l } j f) := by
  have hm := List.mem_of_getElem? hj
  have hfa := h.rn.frames f hm
  have hok := h.ok f hm
  have FO := Forced.refl x.y
  have HD2 : Hid (Dv.Dev w x.pf.d x.y.bs x.y.bo x.y.nb 0 false x.y.S x.y.O) := hidI h.lo.dev
  have HF2 := hidI hfa
  have HR2 := hidI h.rn
  have HB2 := hidI h.box
  have M2 := h.mp
  have hkn : (x.pf.start : Int) + (f.pg : Int) < x.y.nb := by
    have h1 := h.area
    have h2 := hok.pg
    show (x.start : Int) + (f.pg : Int) < x.y.nb
    omega
  refine (pwrite_any HB2.out HD2.out HF2.out hkn).mono ?_
  rintro e w3 ⟨rfl, D3, F3, f3⟩
  have hbo : ∀ S, pMap w x.mp S → x.mp ∉ [x.pf.d, x.y.bo, f.b] := by
    intro S hS e
    simp only [List.mem_cons, List.not_mem_nil, or_false] at e
    rcases e with e | e | e
    · have h1 := HD2.out.cells
      rw [← e] at h1
      exact hS.notcells _ _ h1
    · rw [FO.bo] at e
      exact h.mne.2 e
    · have h1 := HF2.out.at'
      rw [← e] at h1
      exact hS.notcells _ _ h1
  have hty : ∀ (t : TypeId), t ≠ 168 → t ≠ 200 → ∀ g ∈ [x.pf.d, x.y.bo, f.b], ∀ cur t', w.heap[g]? = some (.cells cur t') → t' ≠ t := by
    intro t h1 h2 g hg cur t' e et
    subst et
    simp only [List.mem_cons, List.not_mem_nil, or_false] at hg
    rcases hg with rfl | rfl | rfl
    · rw [HD2.out.cells] at e
      cases e
      exact h1 rfl
    · obtain ⟨D', ⟨es, clock, hb, _⟩, _⟩ := HD2.out.opn
      rw [hb] at e
      cases e
    · rw [HF2.out.at'] at e
      cases e
      exact h2 rfl
  have nin : ∀ k cur t, w.heap[k]? = some (.cells cur t) → t ≠ 168 → t ≠ 200 → k ∉ [x.pf.d, x.y.bo, f.b] := fun k cur t hc h1 h2 hk => hty t h1 h2 k hk cur t hc rfl
  refine ⟨rfl, ?_, ?_, ?_⟩
  · have L2 := h.lo
    have LO : LoAt w3 { x.y with O := Dv.Tab.put x.y.O ((x.start : Int) + (f.pg : Int)) f.l } :=
      { L2 with
        dev := by
          have h1 := D3
          rw [show x.pf.d = x.y.d from FO.d.symm] at h1
          exact h1
        box := L2.box.kept f3 (nin _ _ _ L2.box (by decide) (by decide))
        bsA := own0_kept L2.bsA f3 (hty 5 (by decide) (by decide))
        lsA := own0_kept L2.lsA f3 (hty 2 (by decide) (by decide)) }
    have hrn : ∀ k ∈ ownR x.rp x.sa x.fs, k ≠ f.b → k ∉ [x.pf.d, x.y.bo, f.b] := by
      intro k hk hne e
      simp only [List.mem_cons, List.not_mem_nil, or_false] at e
      obtain ⟨cur, t, hc, ht⟩ := HR2.out.types k hk
      rcases e with e | e | e
      · rw [e, HD2.out.cells] at hc
        cases hc
        exact absurd ht (by decide)
      · obtain ⟨D', ⟨es, clock, hb, _⟩, _⟩ := HD2.out.opn
        rw [e, hb] at hc
        cases hc
      · exact hne e
    have hk' := FO.kin
    refine { lo := LO, box := ?_, rn := HR2.out.setF' hj rfl F3 f3 hrn, mp := ?_, mne := ?_, nod := ?_, ok := ?_, hl := ?_, m0 := h.m0, m1 := h.m1, hh := ?_, hh0 := ?_, p1 := h.p1, area := ?_, dis := ?_, hlw := h.hlw }
    · have h1 : PBox' w3 x.pp x.pf := HB2.out.kept f3 (nin _ _ _ HB2.out (by decide) (by decide))
      have h2 : (x.saved { x.y with O := Dv.Tab.put x.y.O ((x.start : Int) + (f.pg : Int)) f.l } j f).pf = x.pf := by
        show Pf.mk x.y.d x.y.p x.start x.pages x.most x.rp x.mp = Pf.mk x.y.d x.y.p x.start x.pages x.most x.rp x.mp
        rw [FO.d, FO.p]
      show PBox' w3 x.pp _
      rw [h2]
      exact h1
    · obtain ⟨S, hm2, ht⟩ := M2
      exact ⟨S, hm2.kept f3 (hbo S hm2), by show TabOk S (ids (x.fs.set j { f with fst := 0 })); rw [ids_set (f' := { f with fst := 0 }) hj rfl rfl]; exact ht⟩
    · show x.mp ≠ x.y.bs ∧ x.mp ≠ x.y.bo
      rw [FO.bs, FO.bo]
      exact h.mne
    · show ((ids (x.fs.set j { f with fst := 0 })).map (·.1)).Nodup
      rw [ids_set (f' := { f with fst := 0 }) hj rfl rfl]
      exact h.nod
    · intro g hg
      rcases mem_set hj hg with rfl | ⟨i, hi, hgi⟩
      · exact ⟨hok.pg, hok.h0, hok.h1, Int.le_refl _, hok.l0, by show f.lst ≤ (x.y.E : Int); rw [FO.E]; exact hok.l1, fun _ => by show f.l = Dv.latest x.y.S (Dv.Tab.put x.y.O ((x.start : Int) + (f.pg : Int)) f.l) ((x.start : Int) + (f.pg : Int)); rw [latest_put, if_pos rfl]⟩
      · have hgo := h.ok g (List.mem_of_getElem? hgi)
        have hne := pg_ne h.nod hgi hj hi
        refine hgo.turn (hk'.put (by have := h.hlw; omega)) ?_
        show Dv.latest x.y.S (Dv.Tab.put x.y.O ((x.start : Int) + (f.pg : Int)) f.l) ((x.start : Int) + (g.pg : Int)) = _
        rw [latest_put, if_neg (by omega)]
        exact FO.pg h.dis hgo.pg
    · show (x.fs.set j _).length ≤ x.most
      rw [List.length_set]
      exact h.hl
    · show (x.fs.set j _).length = x.most → _
      rw [List.length_set]
      exact h.hh
    · show (x.fs.set j _).length < x.most → _
      rw [List.length_set]
      exact h.hh0
    · show (x.start : Int) + (x.pages : Int) ≤ x.y.nb
      rw [FO.nb]
      exact h.area
    · show (x.start : Int) + (x.pages : Int) ≤ x.y.first ∨ x.y.first + x.y.count ≤ (x.start : Int)
      rw [FO.first, FO.count]
      exact h.dis
  · refine f3.mono (fun k _ hk => ?_)
    simp only [List.mem_cons, List.not_mem_nil, or_false] at hk
    rcases hk with rfl | rfl | rfl
    · simp [Po.own, Lo.own, Po.pf]
    · simp [Po.own, Lo.own]
    · exact own_b hj
  · intro k hk
    have hk2 : k = x.mp ∨ k ∈ ownR x.rp x.sa (x.fs.set j { f with fst := 0 }) ∨ k ∈ x.y.own := by
      simpa [Po.own, Po.saved, Lo.own] using hk
    rw [ownR_set (f' := { f with fst := 0 }) hj rfl] at hk2
    left
    simp only [Po.own, List.mem_cons, List.mem_append]
    exact hk2
end Go.Proofs.YthajipigppndgaaGreat

namespace Go.Proofs.YthajipigppndgaaGreat
open Go.RowKit Go.Maps

def cleanF (f : Fm) : Fm := { f with fst := 0 }
/-- The frames, of which those at some blocks are clean. -/
def cleanB (bl : List Nat) (fs : List Fm) : List Fm := fs.map fun f => if f.b ∈ bl then cleanF f else f
theorem cleanB_nil (fs : List Fm) : cleanB [] fs = fs := by
  unfold cleanB
  simp
theorem cleanB_at {bl : List Nat} {fs : List Fm} {j : Nat} {f : Fm} (hj : fs[j]? = some f) : (cleanB bl fs)[j]? = some (if f.b ∈ bl then cleanF f else f) := by
  unfold cleanB
  rw [List.getElem?_map, hj]
  rfl
theorem b_uniq {fs : List Fm} (hn : (fs.map (·.b)).Nodup) {i j : Nat} {f g : Fm} (hi : fs[i]? = some f) (hj : fs[j]? = some g) (he : f.b = g.b) : i = j := by
  have h1 : (fs.map (·.b))[i]? = some f.b := by rw [List.getElem?_map, hi]; rfl
  have h2 : (fs.map (·.b))[j]? = some f.b := by rw [List.getElem?_map, hj, he]; rfl
  obtain ⟨hl1, e1⟩ := List.getElem?_eq_some_iff.1 h1
  obtain ⟨hl2, e2⟩ := List.getElem?_eq_some_iff.1 h2
  have hp := List.pairwise_iff_getElem.1 hn
  rcases Nat.lt_trichotomy i j with h | h | h
  · exact absurd (e1.trans e2.symm) (hp i j hl1 hl2 h)
  · exact h
  · exact absurd (e2.trans e1.symm) (hp j i hl2 hl1 h)
theorem cleanB_set {bl : List Nat} {fs : List Fm} (hn : (fs.map (·.b)).Nodup) {j : Nat} {f : Fm} (hj : fs[j]? = some f) : (cleanB bl fs).set j (cleanF f) = cleanB (bl ++ [f.b]) fs := by
  apply List.ext_getElem?
  intro i
  by_cases e : i = j
  · subst e
    rw [List.getElem?_set_self (by unfold cleanB; rw [List.length_map]; exact (List.getElem?_eq_some_iff.1 hj).1), cleanB_at hj, if_pos (by simp)]
  · rw [List.getElem?_set_ne (fun h => e h.symm)]
    unfold cleanB
    rw [List.getElem?_map, List.getElem?_map]
    cases hi : fs[i]? with
    | none => rfl
    | some g =>
      have hne : g.b ≠ f.b := fun h => e (b_uniq hn hi hj h)
      simp [hne]
theorem cleanB_pg (bl : List Nat) (fs : List Fm) : (cleanB bl fs).map (·.pg) = fs.map (·.pg) := by
  unfold cleanB
  rw [List.map_map]
  refine List.map_congr_left fun f _ => ?_
  show (if f.b ∈ bl then cleanF f else f).pg = f.pg
  split <;> rfl
/-- What a pool is behind Flush: its frames are clean, on the device stands what they have. -/
structure Flushed (x x' : Po) : Prop where
  al : Alike x x'
  fs : x'.fs = x.fs.map cleanF
  kin : Kin x.y x'.y
  clean : ∀ f ∈ x'.fs, f.fst = 0
  len : x'.fs.length = x.fs.length
  on : ∀ q, q < x.pages → ∀ l, Val x q l → pgD x.start x'.y q = l
  sync : x'.y.O = Dv.Tab.none
  safe : ∀ f ∈ x.fs, 0 < f.fst → f.lst ≤ (x'.y.P : Int)
/-- While dirty pages are written. -/
structure Mdw (w wr : World) (x : Po) (bl pl : List Nat) (yi : Lo) : Prop where
  st : Step w wr x { x with y := yi, fs := cleanB bl x.fs }
  kin : Kin x.y yi
  pg : ∀ q, q < x.pages → q ∉ pl → pgD x.start yi q = pgD x.start x.y q
theorem Rising.nodb {fs ds : List Fm} (h : Rising fs ds) (hn : (fs.map (·.b)).Nodup) : (ds.map (·.b)).Nodup := by
  have h1 : (ds.map (·.b)).Perm ((dirtyL fs).map (·.b)) := h.perm.map _
  refine h1.nodup_iff.2 ?_
  exact List.Nodup.sublist (List.Sublist.map _ List.filter_sublist) hn
theorem Rising.mem {fs ds : List Fm} (h : Rising fs ds) {f : Fm} (hf : f ∈ ds) : f ∈ fs ∧ 0 < f.fst := by
  have h1 := h.perm.mem_iff.1 hf
  have h2 := List.mem_filter.1 h1
  exact ⟨h2.1, by simpa [dirtyB] using h2.2⟩
theorem Rising.has {fs ds : List Fm} (h : Rising fs ds) {f : Fm} (hf : f ∈ fs) (hd : 0 < f.fst) : f ∈ ds := h.perm.mem_iff.2 (List.mem_filter.2 ⟨hf, by simpa [dirtyB] using hd⟩)
set_option maxHeartbeats 2000000 in
theorem flush_any {w : World} {x : Po} (h : PoAt w x) : Calls Tryz.prog 113 #[.pointer (some ⟨x.pp, 0, none⟩)] w fun e w' => e = .returned (.int .i64 0) ∧ ∃ x', Step w w' x x' ∧ Flushed x x' := by
  have HH := hidI h
  have hm1 := h.m1
  have hhl := h.hl
  clear h
  go_enter Tryz.func113, Tryz.ntmps113
  go_wp2_with (go_at_call 96; refine (pmade_yes HH.out.box).mono ?_; rintro e wz ⟨rfl, hz⟩; rw [hz]; clear hz)
  refine (rising_any HH.out).mono ?_
  rintro e w1 ⟨ad, n, c, ds, rfl, hn, hnc, RR, RI⟩
  have HRR := hidI RR
  have HRI := hidI RI
  have HN := hidI hn
  have hle : n ≤ 1024 := by
    have h1 : ds.length ≤ x.fs.length := by
      rw [RI.perm.length_eq]
      exact List.length_filter_le _ _
    omega
  have H1 := hidI (HH.out.kept RR.fr (by simp))
  clear RR RI hn
  go_wp2_with fail
  refine (cover_any H1.out.box H1.out.lo rfl ad n c ds HN.out hle HRR.out.cell (fun f hf => ⟨H1.out.rn.frames f (HRI.out.mem hf).1, (H1.out.ok f (HRI.out.mem hf).1).l1⟩)).mono ?_
  rintro e w2 ⟨rfl, y', L2, FO, hP, hown, f2⟩
  have ST2 := hidI (Step.lower H1.out L2 f2 (fun k hk => by simp only [Lo.own, List.mem_append]; exact Or.inl hk) hown FO.d FO.p FO.bs FO.bo FO.nb FO.first FO.count (Nat.le_of_eq FO.E.symm) (fun q hq => FO.pg H1.out.dis hq) FO.lw)
  have HFO := hidI FO
  have HP := hidI hP
  have hrow : Hid (∀ wr, Fr x.own w1 wr → ∀ (j : Nat) (f : Fm), ds[j]? = some f → ∃ g, ad = some ⟨g, 0, none⟩ ∧ wr.cell? ⟨g, j, none⟩ = some (.pointer (some ⟨f.b, 0, none⟩))) := hidI (fun wr fr j f hj => by
    obtain ⟨g, rfl, hc⟩ := HRR.out.cell j f hj
    refine ⟨g, rfl, ?_⟩
    rw [← hc]
    refine World.cell?_of_block (fr.block g (block_lt_of_cell hc) (fun e => ?_))
    have h3 := HRR.out.new g 0 rfl
    have h4 := HH.out.lt g (List.mem_cons_of_mem _ e)
    omega)
  clear L2 FO hP hown
  go_wp2_with fail
  go_loopw [21] (fun s21 wr => ∃ i : Nat, i ≤ n ∧ s21 = .int .i64 (i : Int) ∧ ∃ yi, Hid (Mdw w1 wr x ((ds.take i).map (·.b)) ((ds.take i).map (·.pg)) yi ∧ y'.P ≤ yi.P)) (fun s21 _ => n - (intOf s21).toNat)
  case atStart =>
    refine ⟨0, by omega, rfl, y', hidI ⟨⟨?_, HFO.out.kin, fun q hq _ => HFO.out.pg H1.out.dis hq⟩, Nat.le_refl _⟩⟩
    have e1 : ({ x with y := y', fs := cleanB ((ds.take 0).map (·.b)) x.fs } : Po) = { x with y := y' } := by
      rw [List.take_zero, List.map_nil, cleanB_nil]
    rw [e1]
    exact ST2.out
  case round =>
    obtain ⟨i, hi, rfl, yi, HM⟩ := hrel
    have HX := hidI HM.out.1.st.at'
    by_cases hlt : i < n
    · have q1 : (i : Int) < (n : Int) := by omega
      have q0 : (0 : Int) ≤ (i : Int) := by omega
      have hwi : IntKind.i64.wrap ((i : Int) + 1) = (i : Int) + 1 := wrapI _ (by omega) (by omega)
      obtain ⟨f, hf⟩ : ∃ f, ds[i]? = some f := ⟨_, List.getElem?_eq_getElem (by have := HN.out; omega)⟩
      obtain ⟨g, rfl, cj⟩ := hrow.out wr HM.out.1.st.fr i f hf
      obtain ⟨hfm, hfd⟩ := HRI.out.mem (List.mem_of_getElem? hf)
      obtain ⟨j, hj⟩ := List.mem_iff_getElem?.1 hfm
      have hnb : f.b ∉ (ds.take i).map (·.b) := fun e => by
        obtain ⟨g', hg', he⟩ := List.mem_map.1 e
        obtain ⟨k, hk⟩ := List.mem_iff_getElem?.1 hg'
        have hki : k < i := by
          have := (List.getElem?_eq_some_iff.1 hk).1
          rw [List.length_take] at this
          omega
        rw [List.getElem?_take, if_pos hki] at hk
        have := b_uniq (HRI.out.nodb HH.out.rn.nod) hk hf he
        omega
      have hjc : (cleanB ((ds.take i).map (·.b)) x.fs)[j]? = some f := by rw [cleanB_at hj, if_neg hnb]
      have HW := hidI (pwrite_step HX.out hjc)
      have HSET := hidI (cleanB_set (bl := (ds.take i).map (·.b)) HH.out.rn.nod hj)
      have HTK : Hid ((ds.take (i + 1)).map (·.b) = (ds.take i).map (·.b) ++ [f.b] ∧ (ds.take (i + 1)).map (·.pg) = (ds.take i).map (·.pg) ++ [f.pg]) := hidI (by rw [List.take_add_one, hf]; simp)
      clear hjc hnb
      go_wp2_with (go_at_call 184; refine HW.out.mono ?_; rintro e w3 ⟨rfl, st3⟩)
      refine ⟨⟨i + 1, by omega, by go_num, { yi with O := Dv.Tab.put yi.O ((x.start : Int) + (f.pg : Int)) f.l }, hidI ⟨⟨?_, ?_, ?_⟩, HM.out.2⟩⟩, by simp [intOf]; omega⟩
      · rw [HTK.out.1, ← HSET.out]
        exact HM.out.1.st.trans st3
      · have k := HM.out.1.kin
        exact k.put (by have := H1.out.hlw; omega)
      · intro q hq hnq
        rw [HTK.out.2] at hnq
        simp only [List.mem_append, List.mem_singleton, not_or] at hnq
        show Dv.latest yi.S (Dv.Tab.put yi.O ((x.start : Int) + (f.pg : Int)) f.l) ((x.start : Int) + (q : Int)) = _
        rw [latest_put, if_neg (by omega)]
        exact HM.out.1.pg q hq hnq.1
    · have q1 : ¬ (i : Int) < (n : Int) := by omega
      have hin : i = n := by omega
      have HALL : Hid (ds.take i = ds) := hidI (by rw [List.take_of_length_le (by have := HN.out; omega)])
      have hkn := HM.out.1.kin
      have hD : Dv.Dev wr x.y.d yi.bs yi.bo yi.nb 0 false yi.S yi.O := by rw [← hkn.d]; exact HX.out.lo.dev
      have b0 : wr.cell? ⟨x.pp, 0, none⟩ = some (.pointer (some ⟨x.y.d, 0, none⟩)) := by
        have h3 := HX.out.box.c0
        rw [show ({ x with y := yi, fs := cleanB ((ds.take i).map (·.b)) x.fs } : Po).pf.d = yi.d from rfl, hkn.d] at h3
        exact h3
      have HL2 := hidI HX.out.lo
      have FO := hkn
      go_wp2_with fail
      refine (Dv.sync_dev hD rfl).mono ?_
      rintro e w3 ⟨rfl, D3, f3⟩
      go_wp2_with fail
      go_ret
      have f3' := fr_dv f3
      have L2 := HL2.out
      have hne := L2.ne
      have LO : LoAt w3 { yi with S := Dv.over yi.S yi.O, O := Dv.Tab.none } :=
        { L2 with
          dev := by
            rw [← FO.d] at D3
            exact D3
          box := L2.box.kept f3' (by simp only [List.mem_cons, List.not_mem_nil, or_false, not_or]; rw [← FO.d]; exact hne)
          bsA := own0_kept L2.bsA f3' (by rw [← FO.d]; exact dev_types3 L2.dev)
          lsA := own0_kept L2.lsA f3' (by
            intro g hg cur t e et
            subst et
            simp only [List.mem_cons, List.not_mem_nil, or_false] at hg
            rcases hg with rfl | rfl | rfl
            · rw [← FO.d, L2.dev.cells] at e
              cases e
            · obtain ⟨D', ⟨es, clock, hb, _⟩, _⟩ := L2.dev.safe
              rw [hb] at e
              cases e
            · obtain ⟨D', ⟨es, clock, hb, _⟩, _⟩ := L2.dev.opn
              rw [hb] at e
              cases e) }
      have STL := Step.lower HX.out LO f3' (fun k hk => by
        have hk3 : k = x.y.d ∨ k = yi.bs ∨ k = yi.bo := by simpa using hk
        simp only [Lo.own, List.mem_append]
        left
        show k ∈ [yi.p, yi.d, yi.bs, yi.bo]
        rw [hkn.d]
        simp only [List.mem_cons, List.not_mem_nil, or_false]
        exact Or.inr hk3) (fun k hk => Or.inl hk) rfl rfl rfl rfl rfl rfl rfl (Nat.le_refl _) (fun q hq => latest_sync _ _ _) rfl
      have ST := hidI ((⟨H1.out, HRR.out.fr.mono (fun _ _ e => nomatch e), fun k hk => Or.inl hk⟩ : Step w w1 x x).trans (HM.out.1.st.trans STL))
      have hpl : ∀ q, q ∉ (ids x.fs).map (·.1) → q ∉ (ds.take i).map (·.pg) := fun q hq e => by
        obtain ⟨g', hg', he⟩ := List.mem_map.1 e
        rw [HALL.out] at hg'
        exact hq (he ▸ mem_ids (HRI.out.mem hg').1)
      have hcl : cleanB ((ds.take i).map (·.b)) x.fs = x.fs.map cleanF := by
        unfold cleanB
        refine List.map_congr_left fun f hf => ?_
        by_cases hd : 0 < f.fst
        · rw [if_pos]
          rw [HALL.out]
          exact List.mem_map.2 ⟨f, HRI.out.has hf hd, rfl⟩
        · have h0 := (HH.out.ok f hf).f0
          have e0 : f.fst = 0 := by omega
          have e1 : cleanF f = f := by unfold cleanF; rw [← e0]
          rw [e1, ite_self]
      have hal : ∀ q, q < x.pages → ∀ l, Val x q l → Val { x with y := { yi with S := Dv.over yi.S yi.O, O := Dv.Tab.none }, fs := cleanB ((ds.take i).map (·.b)) x.fs } q l := fun q hq l hv => by
        rcases hv with ⟨f, hf, h1, h2⟩ | ⟨hq', h2⟩
        · refine Or.inl ⟨cleanF f, ?_, h1, h2⟩
          show cleanF f ∈ cleanB _ x.fs
          rw [hcl]
          exact List.mem_map.2 ⟨f, hf, rfl⟩
        · refine Or.inr ⟨?_, ?_⟩
          · show q ∉ (ids (cleanB _ x.fs)).map (·.1)
            rw [ids_pg, cleanB_pg, ← ids_pg]
            exact hq'
          · show Dv.latest (Dv.over yi.S yi.O) Dv.Tab.none _ = l
            rw [latest_sync, ← h2]
            exact HM.out.1.pg q hq (hpl q hq')
      refine ⟨rfl, _, ST.out, ⟨⟨rfl, rfl, rfl, rfl, rfl, rfl, hal⟩, hcl, hkn.sync, ?_, ?_, ?_, rfl, ?_⟩⟩
      · intro f hf
        have hf2 : f ∈ cleanB ((ds.take i).map (·.b)) x.fs := hf
        rw [hcl] at hf2
        obtain ⟨g', _, rfl⟩ := List.mem_map.1 hf2
        rfl
      · show (cleanB _ x.fs).length = _
        unfold cleanB
        rw [List.length_map]
      · intro q hq l hv
        have hq2 := hal q hq l hv
        rcases hq2 with ⟨f, hf, h1, h2⟩ | ⟨_, h2⟩
        · have hf2 : f ∈ cleanB ((ds.take i).map (·.b)) x.fs := hf
          rw [hcl] at hf2
          obtain ⟨g', _, rfl⟩ := List.mem_map.1 hf2
          have h3 := (ST.out.at'.ok _ hf).cl rfl
          rw [← h2, h3, ← h1]
        · exact h2
      · intro f hf hd
        exact Int.le_trans (HP.out f (HRI.out.has hf hd)) (by have := HM.out.2; show (y'.P : Int) ≤ (yi.P : Int); omega)
end Go.Proofs.YthajipigppndgaaGreat

