/-
  KeyKeeps: the walk.
-/
import Derived.Test.YthaekjolbjmjfaaDoorKLaw2
import Derived.Test.YthaekjolbjmjfaaDoorAbApartB
namespace Go.Proofs.YthaekjolbjmjfaaDoor
open Go.RowKit Go.Maps

theorem Fr.ab {L : List Nat} {w w' : World} (f : Fr L w w') : Ab.Fr L w w' := ⟨f.os, f.tape, f.output, f.size, f.block⟩
theorem fr_ab {L : List Nat} {w w' : World} (f : Ab.Fr L w w') : Fr L w w' := ⟨f.os, f.tape, f.output, f.size, f.block⟩
theorem Own.bnd {w0 w : World} {v : Value} {n : Nat} {xs : List Value} (h : Own w0 w v n xs) (g : Nat) (hg : v.ownBlock = some g) : w0.heap.size ≤ g ∧ g < w.heap.size := by
  rcases h.1.2 with ⟨e, _⟩ | ⟨g', _, cur, e, hb, hh, _⟩
  · rw [e] at hg; cases hg
  · rw [e] at hg
    have : g' = g := by simpa [Value.ownBlock] using hg
    subst this
    exact ⟨hb, (Array.getElem?_eq_some_iff.1 hh).1⟩
theorem Own.weak {w0 w : World} {v : Value} {n : Nat} {xs : List Value} (h : Own w0 w v n xs) : w.ownsRow 0 5 1 v n xs := by
  obtain ⟨h1, h2⟩ := h.1
  refine ⟨h1, ?_⟩
  rcases h2 with hn | ⟨g, cap, cur, rfl, hb, r⟩
  · exact Or.inl hn
  · exact Or.inr ⟨g, cap, cur, rfl, Nat.zero_le _, r⟩
theorem okept {w w' : World} {v : Value} {n : Nat} {xs : List Value} {L : List Nat} (h : w.ownsRow 0 5 1 v n xs) (k : Fr L w w') (hL : ∀ g, v.ownBlock = some g → g ∉ L) : w'.ownsRow 0 5 1 v n xs := by
  obtain ⟨h1, h2⟩ := h
  refine ⟨h1, ?_⟩
  rcases h2 with hn | ⟨g, cap, cur, rfl, hb, hg, r⟩
  · exact Or.inl hn
  · exact Or.inr ⟨g, cap, cur, rfl, hb, k.same (hL g rfl) hg, r⟩

theorem lives {wi wj w7 w8 wa : World} {v : Value} {n g : Nat} {xs : List Value} (o : Own wi wj v n xs) (t : Fr [] wj w7) (f8 : Fr [g] w7 w8) (hg : g < wi.heap.size) (t9 : Fr [] w8 wa) : wa.ownsRow 0 5 1 v n xs :=
  okept (okept (okept o.weak t (by simp)) f8 (fun b hb hm => by have := (o.bnd b hb).1; simp at hm; omega)) t9 (by simp)
theorem row_bytes {w : World} {ad : Option Addr} {n cap : Nat} {l : List UInt8} (h : w.ownsRow 0 5 1 (.slice ad n cap) n (arr l).toList) : BytesAt w ad l := by
  intro j u hu
  have hlen : (arr l).toList.length = n := by have := h.1; omega
  have hj : j < n := by have := (List.getElem?_eq_some_iff.1 hu).1; omega
  rcases h.2 with ⟨e, e2⟩ | ⟨g, c, cur, e, _, hg, hnc, _, hcs, ht⟩
  · omega
  · cases e
    refine ⟨g, 0, rfl, ?_⟩
    rw [Nat.zero_add, cell_of_row w g j _ _ _ hg]
    rw [← ht, List.getElem?_take, if_pos (by omega)] at hu
    simpa using hu

/-- A list of bytes: where it lies, its length, its room. -/
abbrev Spot := Option Addr × Nat × Nat
def Spot.val (s : Spot) : Value := .slice s.1 s.2.1 s.2.2
def blocksOf (vs : List Spot) : List Nat := vs.flatMap fun s => s.val.ownBlock.toList
theorem blocks_mem {vs : List Spot} {g : Nat} : g ∈ blocksOf vs ↔ ∃ s ∈ vs, s.val.ownBlock = some g := by
  simp [blocksOf]

/-- Lists of bytes that lie apart, in a new table. -/
theorem lists_of {w : World} (vs : List Spot) (tab : Array Value) (htab : tab = (vs.map Spot.val).toArray) (hK : vs.length ≤ 50) (hn : ∀ s ∈ vs, s.2.1 ≤ 100000) (hown : ∀ s ∈ vs, ∃ xs : List Value, xs.length = s.2.1 ∧ w.ownsRow 0 5 1 s.val s.2.1 xs)
    (hap : vs.Pairwise fun s t => ∀ g, s.val.ownBlock = some g → t.val.ownBlock ≠ some g) :
    Ab.Lists (w.alloc (.cells tab 22)) (blocksOf vs) vs.length w.heap.size (fun j => (vs.getD j (none, 0, 0)).1) (fun j => (vs.getD j (none, 0, 0)).2.1) (fun j => (vs.getD j (none, 0, 0)).2.2) := by
  subst htab
  have hget : ∀ j, (hj : j < vs.length) → vs.getD j (none, 0, 0) = vs[j] := fun j hj => by simp [hj]
  have hlt : ∀ g ∈ blocksOf vs, g < w.heap.size := by
    intro g hg
    obtain ⟨s, hs, hb⟩ := blocks_mem.1 hg
    obtain ⟨xs, _, ho⟩ := hown s hs
    rcases ho.2 with ⟨e, _⟩ | ⟨g', _, cur, e, _, hh, _⟩
    · rw [e] at hb; cases hb
    · rw [e] at hb
      have : g' = g := by simpa [Value.ownBlock] using hb
      subst this
      exact (Array.getElem?_eq_some_iff.1 hh).1
  refine ⟨hK, ?_, ?_, ?_, ?_, ?_, ?_⟩
  · intro j hj
    simp only [hget j hj]
    exact hn _ (List.getElem_mem hj)
  · intro j hj
    simp only [hget j hj]
    rw [cell_of_row _ _ _ _ _ _ (heap_alloc_new w _)]
    simp [hj, Spot.val]
  · intro j hj
    simp only [hget j hj]
    obtain ⟨xs, h1, h2⟩ := hown _ (List.getElem_mem hj)
    exact ⟨xs, h1, okept h2 ((Fr.refl [] w).alloc _) (by simp)⟩
  · intro i j hi hj hij g
    simp only [hget i hi, hget j hj]
    rcases Nat.lt_or_gt_of_ne hij with k | k
    · exact (List.pairwise_iff_getElem.1 hap i j hi hj k) g
    · exact fun e1 e2 => (List.pairwise_iff_getElem.1 hap j i hj hi k) g e2 e1
  · intro j hj g
    simp only [hget j hj]
    exact fun e => blocks_mem.2 ⟨_, List.getElem_mem hj, e⟩
  · intro h
    have := hlt _ h
    omega

/-- LentBytes, wherever the bytes lie. -/
theorem lent_all (w : World) (ad : Option Addr) (n c : Nat) (l : List UInt8) (hl : l.length = n) (hn : n ≤ 20000) (hb : BytesAt w ad l) (hc : ad = none → c = 0) :
    Calls Tryd.prog 21 #[.slice ad n c] w fun e w' => ∃ g cap, e = .returned (.slice (some ⟨g, 0, none⟩) n cap) ∧ LentAt w' g cap l ∧ w.heap.size ≤ g ∧ Fr [] w w' := by
  cases ad with
  | some a => exact lent_any w a n c l hl hn hb
  | none =>
    obtain rfl : l = [] := by
      cases l with
      | nil => rfl
      | cons x r =>
        obtain ⟨b, off, e, _⟩ := hb.at 0 (by simp)
        cases e
    have := hc rfl
    subst this
    subst hl
    exact lent_nil w 0 [] rfl (by omega) rfl

set_option maxHeartbeats 4000000 in
set_option maxRecDepth 100000 in
theorem keyKeeps_long (w : World) (L : LaidW w) (x : Int) (ad : Option Addr) (n c : Nat) (hn : 20000 < n) :
    Calls Tryd.prog 6 #[.int .i64 x, .slice ad n c] w fun e w' => e = .returned (.bool true) ∧ Fr [] w w' := by
  have hn' : (20000 : Int) < (n : Int) := by omega
  go_enter Tryd.func6, Tryd.ntmps6
  go_wp2_with (go_at_call 9; refine (awake_any _ L).mono ?_; rintro e w1 ⟨rfl, f1⟩)
  go_ret
  exact ⟨rfl, f1⟩

set_option maxHeartbeats 4000000 in
set_option maxRecDepth 100000 in
theorem keyKeeps_law (w : World) (L : LaidW w) (x : Int) (u : Nat) (hx : x + 9223372036854775808 = (u : Int)) (hu : u < 18446744073709551616) (ad : Option Addr) (n c : Nat) (l : List UInt8) (hl : l.length = n) (hb : BytesAt w ad l) (hc : ad = none → c = 0) (hn : n ≤ 20000) :
    Calls Tryd.prog 6 #[.int .i64 x, .slice ad n c] w fun e w' => e = .returned (.bool true) ∧ Fr [] w w' := by
  have hn' : (n : Int) ≤ 20000 := by omega
  have hn2 : ¬ (20000 : Int) < (n : Int) := by omega
  have HL := Lib.hid hl
  have HX := Lib.hid hx
  have HC := Lib.hid hc
  obtain ⟨gy, gk, gok, hG⟩ := getInt_ex l n hl (by omega)
  have HG := Lib.hid hG
  have hk1 : (putB l).length ≤ 100000 := by
    have := esc_length_le l
    simp [putB]
    omega
  have hk2 : (rowGot (getB l)).length ≤ 100000 := by
    cases h : getB l with
    | none => simp [rowGot]
    | some p =>
      have := getB_row_le (x := p.1) (k := p.2) h
      simp [rowGot]
      omega
  obtain ⟨K, HK⟩ : ∃ K, Hid ((putB l).length = K) := ⟨(putB l).length, rfl⟩
  obtain ⟨J, HJ⟩ : ∃ J, Hid ((rowGot (getB l)).length = J) := ⟨(rowGot (getB l)).length, rfl⟩
  rw [HK.out] at hk1
  rw [HJ.out] at hk2
  clear hl hx hc hG
  go_enter Tryd.func6, Tryd.ntmps6
  go_wp2_with fail
  refine (lent_all _ ad n c l HL.out hn hb HC.out).mono ?_
  rintro e w1 ⟨g, cap, rfl, la, hg, f1⟩
  go_wp2_with fail
  refine (putBytes_out _ _ n cap K l HL.out la.bytes (by omega) HK.out).mono ?_
  rintro e w2 ⟨ad2, cap2, rfl, o2⟩
  have la2 := la.kept o2.2 (by simp)
  go_wp2_with fail
  refine (putBytes_out _ _ n cap K l HL.out la2.bytes (by omega) HK.out).mono ?_
  rintro e w3 ⟨ad3, cap3, rfl, o3⟩
  have la3 := la2.kept o3.2 (by simp)
  go_wp2_with fail
  refine (getBytes_out _ _ n cap J l HL.out la3.bytes (by omega) HJ.out).mono ?_
  rintro e w4 ⟨ad4, cap4, rfl, o4⟩
  have la4 := la3.kept o4.2 (by simp)
  go_wp2_with fail
  refine (getBytes_out _ _ n cap J l HL.out la4.bytes (by omega) HJ.out).mono ?_
  rintro e w5 ⟨ad5, cap5, rfl, o5⟩
  have la5 := la4.kept o5.2 (by simp)
  go_wp2_with fail
  refine (HG.out _ _ cap la5.bytes).1.mono ?_
  rintro e w6 ⟨rfl, f6⟩
  have la6 := la5.kept f6 (by simp)
  have g6 := ((((f1.trans o2.2).trans o3.2).trans o4.2).trans o5.2).trans f6
  go_wp2_with fail
  refine (kept_any _ g cap n c ad l HL.out hn la6 (hb.kept g6 (by simp))).mono ?_
  rintro e w7 ⟨rfl, f7⟩
  have la7 := la6.kept f7 (by simp)
  go_wp2_with fail
  refine (over_any _ g cap n l HL.out hn la7).mono ?_
  rintro e w8 ⟨rfl, f8⟩
  have g8 : Fr [] w w8 := (g6.trans f7).then f8 (fun i hi hm => by simp at hm; omega)
  go_wp2_with fail
  refine (rGetBytes_out _ ad n c J l HL.out (hb.kept g8 (by simp)) (by omega) HJ.out).mono ?_
  rintro e w9 ⟨ad9, cap9, rfl, o9⟩
  have g9 := g8.trans o9.2
  go_wp2_with fail
  refine (rPutBytes_out _ ad n c K l HL.out (hb.kept g9 (by simp)) (by omega) HK.out).mono ?_
  rintro e wa ⟨ada, capa, rfl, oa⟩
  have hgw : g < w1.heap.size := la.lt
  have r2 := lives o2 ((((o3.2.trans o4.2).trans o5.2).trans f6).trans f7) f8 hgw (o9.2.trans oa.2)
  have r3 := lives o3 (((o4.2.trans o5.2).trans f6).trans f7) f8 (Nat.lt_of_lt_of_le hgw o2.2.size) (o9.2.trans oa.2)
  have r4 := lives o4 ((o5.2.trans f6).trans f7) f8 (Nat.lt_of_lt_of_le hgw (o2.2.trans o3.2).size) (o9.2.trans oa.2)
  have r5 := lives o5 (f6.trans f7) f8 (Nat.lt_of_lt_of_le hgw ((o2.2.trans o3.2).trans o4.2).size) (o9.2.trans oa.2)
  have z0 := f1.size
  have z2 := o2.2.size
  have z3 := o3.2.size
  have z4 := o4.2.size
  have z5 := o5.2.size
  have z6 := f6.size
  have z7 := f7.size
  have z8 := f8.size
  have z9 := o9.2.size
  have za := oa.2.size
  have ga := g9.trans oa.2
  have b9 := o9.bytes.kept oa.2 (by simp)
  clear la la2 la3 la4 la5 la6 la7 g6 g8 g9 f1 f6 f7 f8 o9
  go_wp2_with fail
  refine (aw_same _ _ _ K _ _ (putB l) HK.out (row_bytes r2) oa.bytes (by omega)).mono ?_
  rintro e wb ⟨rfl, fb⟩
  go_wp2_with fail
  refine (aw_same _ _ _ J _ _ (rowGot (getB l)) HJ.out ((row_bytes r4).kept fb (by simp)) (b9.kept fb (by simp)) (by omega)).mono ?_
  rintro e wc ⟨rfl, fc⟩
  replace fc := fb.trans fc
  clear b9 oa fb
  go_wp2_with fail
  refine (putInt_out _ x u HX.out hu).mono ?_
  rintro e wd ⟨add, capd, rfl, od⟩
  go_wp2_with fail
  refine (putInt_out _ x u HX.out hu).mono ?_
  rintro e we ⟨ade, cape, rfl, oe⟩
  have zc := fc.size
  have zd := od.2.size
  have ze := oe.2.size
  have fe : Fr [] wa we := (fc.trans od.2).trans oe.2
  have e2 := okept r2 fe (by simp)
  have e3 := okept r3 fe (by simp)
  have e4 := okept r4 fe (by simp)
  have e5 := okept r5 fe (by simp)
  have ed := okept od.weak oe.2 (by simp)
  have ee := oe.weak
  have x2 := o2.1.1
  have hap : ([(ad2, K, cap2), (ad3, K, cap3), (ad4, J, cap4), (ad5, J, cap5), (add, 8, capd), (ade, 8, cape)] : List Spot).Pairwise fun s t => ∀ g, s.val.ownBlock = some g → t.val.ownBlock ≠ some g := by
    refine List.Pairwise.cons ?_ (List.Pairwise.cons ?_ (List.Pairwise.cons ?_ (List.Pairwise.cons ?_ (List.Pairwise.cons ?_ (List.Pairwise.cons ?_ List.Pairwise.nil)))))
    · intro s hs g e1 e2
      have q1 := o2.bnd g e1
      simp only [List.mem_cons, List.not_mem_nil, or_false] at hs
      rcases hs with rfl | rfl | rfl | rfl | rfl
      · have q2 := o3.bnd g e2; omega
      · have q2 := o4.bnd g e2; omega
      · have q2 := o5.bnd g e2; omega
      · have q2 := od.bnd g e2; omega
      · have q2 := oe.bnd g e2; omega
    · intro s hs g e1 e2
      have q1 := o3.bnd g e1
      simp only [List.mem_cons, List.not_mem_nil, or_false] at hs
      rcases hs with rfl | rfl | rfl | rfl
      · have q2 := o4.bnd g e2; omega
      · have q2 := o5.bnd g e2; omega
      · have q2 := od.bnd g e2; omega
      · have q2 := oe.bnd g e2; omega
    · intro s hs g e1 e2
      have q1 := o4.bnd g e1
      simp only [List.mem_cons, List.not_mem_nil, or_false] at hs
      rcases hs with rfl | rfl | rfl
      · have q2 := o5.bnd g e2; omega
      · have q2 := od.bnd g e2; omega
      · have q2 := oe.bnd g e2; omega
    · intro s hs g e1 e2
      have q1 := o5.bnd g e1
      simp only [List.mem_cons, List.not_mem_nil, or_false] at hs
      rcases hs with rfl | rfl
      · have q2 := od.bnd g e2; omega
      · have q2 := oe.bnd g e2; omega
    · intro s hs g e1 e2
      have q1 := od.bnd g e1
      simp only [List.mem_cons, List.not_mem_nil, or_false] at hs
      rcases hs with rfl
      have q2 := oe.bnd g e2
      omega
    · intro s hs
      cases hs
  have hfar : ∀ g ∈ blocksOf ([(ad2, K, cap2), (ad3, K, cap3), (ad4, J, cap4), (ad5, J, cap5), (add, 8, capd), (ade, 8, cape)] : List Spot), w1.heap.size ≤ g ∧ g < we.heap.size := by
    intro g hm
    obtain ⟨s, hs, e⟩ := blocks_mem.1 hm
    simp only [List.mem_cons, List.not_mem_nil, or_false] at hs
    rcases hs with rfl | rfl | rfl | rfl | rfl | rfl
    · have q := o2.bnd g e; omega
    · have q := o3.bnd g e; omega
    · have q := o4.bnd g e; omega
    · have q := o5.bnd g e; omega
    · have q := od.bnd g e; omega
    · have q := oe.bnd g e; omega
  have hL := lists_of (w := we) ([(ad2, K, cap2), (ad3, K, cap3), (ad4, J, cap4), (ad5, J, cap5), (add, 8, capd), (ade, 8, cape)] : List Spot) #[.slice ad2 K cap2, .slice ad3 K cap3, .slice ad4 J cap4, .slice ad5 J cap5, .slice add 8 capd, .slice ade 8 cape] rfl (by simp) (by
    intro s hs
    simp only [List.mem_cons, List.not_mem_nil, or_false] at hs
    rcases hs with rfl | rfl | rfl | rfl | rfl | rfl <;> simp only <;> omega) (by
    intro s hs
    simp only [List.mem_cons, List.not_mem_nil, or_false] at hs
    rcases hs with rfl | rfl | rfl | rfl | rfl | rfl
    · exact ⟨_, by have := e2.1; simp only; omega, e2⟩
    · exact ⟨_, by have := e3.1; simp only; omega, e3⟩
    · exact ⟨_, by have := e4.1; simp only; omega, e4⟩
    · exact ⟨_, by have := e5.1; simp only; omega, e5⟩
    · exact ⟨_, by have := ed.1; simp only; omega, ed⟩
    · exact ⟨_, by have := ee.1; simp only; omega, ee⟩) hap
  have HLs := Lib.hid hL
  have HFar := Lib.hid hfar
  clear hL hfar hap e2 e3 e4 e5 ed ee x2 r2 r3 r4 r5 o2 o3 o4 o5 od oe
  have ge := ga.trans fe
  go_wp2_with fail
  refine (Ab.apartBytes_any _ _ 6 _ _ _ _ _ HLs.out (by omega) (fun g hm => by have := (HFar.out g hm).2; simp; omega)).mono ?_
  rintro e wf ⟨rfl, ff⟩
  have gf : Fr [] w wf := (ge.alloc _).then (fr_ab ff) (fun i hi hm => by have := (HFar.out i hm).1; omega)
  go_wp2_with fail
  refine (awake_any _ (L.kept gf)).mono ?_
  rintro e wg ⟨rfl, fg⟩
  go_wp2_with fail
  go_ret
  exact ⟨rfl, gf.trans fg⟩

end Go.Proofs.YthaekjolbjmjfaaDoor
