/-
  LabelTree: the walk.
-/
import Derived.Test.YtddcilmeignlmaaDoorLTreeW
namespace Go.Proofs.YtddcilmeignlmaaDoor
open Go.RowKit Go.Maps Go.Lib

/-- Widths: numbers in memory. -/
def WidAt (w : World) (ad : Option Addr) (P : List Int) : Prop := ∀ (j : Nat) (x : Int), P[j]? = some x → ∃ b off, ad = some ⟨b, off, none⟩ ∧ w.cell? ⟨b, off + j, none⟩ = some (.int .i64 x)
theorem WidAt.kept {w w' : World} {ad : Option Addr} {P : List Int} (h : WidAt w ad P) (f : Fr [] w w') : WidAt w' ad P := fun j x hx => by
  obtain ⟨b, off, e, hc⟩ := h j x hx
  exact ⟨b, off, e, (World.cell?_of_block (f.block b (block_lt_of_cell hc) (by simp))).trans hc⟩


def sLen : Value → Nat
  | .slice _ n _ => n
  | _ => 0
theorem sLen_slice (a : Option Addr) (n c : Nat) : sLen (.slice a n c) = n := rfl
/-- What holds between two rounds, but for the slots. -/
def Inv (w2 wr : World) (vr vo : Value) (R O : List PEnt) : Prop := TAt w2 wr vr vo R O ∧ R.length ≤ 300 ∧ O.length ≤ 1 + 5 * R.length
/-- Children put on the stack, the last first. -/
structure Push (w2 wr : World) (vr vo : Value) (R O : List PEnt) (x : PEnt) (ks : List PEnt) (i : Nat) : Prop where
  row : RowP w2 wr vr (R ++ [x])
  open_ : RowP w2 wr vo (O ++ (ks.drop i).reverse)
  two : Two vr vo
  ents : ∀ e ∈ R ++ [x] ++ O ++ ks, PAt wr e
  fr : Fr [] w2 wr
theorem Push.done {w2 wr : World} {vr vo : Value} {R O : List PEnt} {x : PEnt} {ks : List PEnt} {n k : Nat} (h : Push w2 wr vr vo R O x ks 0) (hT : Tour (R.map PEnt.p) ((O ++ [x]).reverse.map PEnt.p)) (hn : n ≤ 5) (hk : n / 2 ^ k < 2 ∧ (k = 0 ∨ 2 ^ k ≤ n)) (hks : ks.map PEnt.p = kidsP x.p (k + 1) n) : TAt w2 wr vr vo (R ++ [x]) (O ++ ks.reverse) := by
  have ho := h.open_
  rw [List.drop_zero] at ho
  refine ⟨h.row, ho, h.two, fun e he => h.ents e ?_, ?_, h.fr⟩
  · simp only [List.mem_append, List.mem_reverse] at he ⊢
    rcases he with he | he | he
    · exact Or.inl (Or.inl he)
    · exact Or.inl (Or.inr he)
    · exact Or.inr he
  · rw [List.reverse_append, List.reverse_reverse, List.map_append, List.map_append, hks]
    rw [List.reverse_append, List.map_append] at hT
    exact hT.step hn hk

theorem frA (w : World) (o : Obj) : Fr [] w (w.alloc o) := (Fr.refl _ _).alloc _
theorem Push.kept {w2 w w' : World} {vr vo : Value} {R O : List PEnt} {x : PEnt} {ks : List PEnt} {i : Nat} (h : Push w2 w vr vo R O x ks i) (f : Fr [] w w') : Push w2 w' vr vo R O x ks i :=
  ⟨h.row.kept f (by simp), h.open_.kept f (by simp), h.two, fun e he => (h.ents e he).kept f, h.fr.trans f⟩
/-- The top of the stack is told. -/
theorem step_row {w1 wr w4 : World} {vr : Value} {go n capo : Nat} {R O : List PEnt} {x : PEnt} {g cap : Nat} {ob : Obj} (h : TAt w1 wr vr (.slice (some ⟨go, 0, none⟩) n capo) R (O ++ [x])) (hn : n = (O ++ [x]).length)
    (o : w4.ownsRow 0 22 1 (.slice (some ⟨g, 0, none⟩) (R.length + 1) cap) (R.length + 1) (R.map PEnt.val ++ [x.val])) (f : Fr vr.ownBlock.toList (wr.alloc ob) w4) (at4 : vr.ownBlock = some g ∨ g = (wr.alloc ob).heap.size) :
    Push w1 w4 (.slice (some ⟨g, 0, none⟩) (R.length + 1) cap) (.slice (some ⟨go, 0, none⟩) O.length capo) R O x [] 0 := by
  have h1 := h.kept (frA wr ob)
  have hp := RowP.pop hn h1.open_
  have htwo : Two vr (.slice (some ⟨go, 0, none⟩) O.length capo) := fun j hj e => h.two j hj e
  refine ⟨RowP.push h1.row h1.fr.size o at4, ?_, two_push htwo hp.own at4, fun e he => ?_, fr_row h1.row h1.fr f⟩
  · simp only [List.drop_nil, List.reverse_nil, List.append_nil]
    exact hp.kept f htwo.notin
  · refine PAt.row (h1.ents e ?_) h1.row.own f
    simp only [List.append_nil, List.mem_append] at he ⊢
    rcases he with (he | he) | he
    · exact Or.inl he
    · exact Or.inr (Or.inr he)
    · exact Or.inr (Or.inl he)
theorem choose_p {n : Nat} {p : Nat → PEnt → Prop} (h : ∀ i, i < n → ∃ x, p i x) : ∃ f : Nat → PEnt, ∀ i, i < n → p i (f i) :=
  ⟨fun i => if hi : i < n then Classical.choose (h i hi) else ⟨none, 0, 0, [], []⟩, fun i hi => by
    show p i (if hi : i < n then Classical.choose (h i hi) else ⟨none, 0, 0, [], []⟩)
    rw [dif_pos hi]
    exact Classical.choose_spec (h i hi)⟩
/-- What Kids hands out. -/
theorem kids_ents {w w' : World} {v : Value} {n : Nat} {xs : List Value} {pp : Path} {k : Nat} (h : KTo w w' v n xs pp (k + 1)) (hN : Narrow pp) (hd : n ≠ 0 → pp.length < 12) (hk : k ≤ 2) : ∃ ks : List PEnt, ks.length = n ∧ ks.map PEnt.val = xs ∧ ks.map PEnt.p = kidsP pp (k + 1) n ∧ (∀ e ∈ ks, PAt w' e) ∧ RowP w w' v ks := by
  have hx : ∀ i, i < n → ∃ e : PEnt, xs[i]? = some e.val ∧ e.p = pp ++ [kidS (k + 1) (i + 1)] ∧ PAt w' e := fun i hi => by
    obtain ⟨x, l, h1, h2, h3⟩ := h.kids i hi
    obtain ⟨e, he, hp, ha⟩ := pat_out h3 h2 (hN.kid hk) (by have := hd (by omega); simp; omega)
    exact ⟨e, by rw [h1, he], hp, ha⟩
  obtain ⟨f, hf⟩ := choose_p hx
  have hlen : xs.length = n := by have := h.own.1; omega
  have hv : ((List.range n).map f).map PEnt.val = xs := by
    refine List.ext_getElem? fun i => ?_
    by_cases hi : i < n
    · rw [(hf i hi).1]
      simp [List.getElem?_range hi]
    · rw [List.getElem?_eq_none (by simp; omega), List.getElem?_eq_none (by omega)]
  refine ⟨(List.range n).map f, by simp, hv, ?_, ?_, ?_, h.new⟩
  · unfold kidsP
    rw [List.map_map]
    refine List.map_congr_left fun i hi => ?_
    exact (hf i (List.mem_range.1 hi)).2.1
  · intro e he
    obtain ⟨i, hi, rfl⟩ := List.mem_map.1 he
    exact (hf i (List.mem_range.1 hi)).2.2
  · rw [hv]
    simpa using h.own
/-- Kids of a label that is not deep: always told. -/
theorem kids_fine (w : World) (hL : Laid w) (xa : Option Addr) (xn xc : Nat) (xl : List UInt8) (xp : Path) (he : PAt w ⟨xa, xn, xc, xl, xp⟩) (n : Nat) (hn : n ≤ 5) (hd : n ≠ 0 → xp.length < 12) :
    Calls Tryd.prog 8 #[.slice xa xn xc, .int .i64 (n : Int)] w fun r w' => ∃ adk capk ks k, r = .returned (.tuple #[.slice adk n capk, .int .i64 0]) ∧ Hid (ks.length = n ∧ (n / 2 ^ k < 2 ∧ (k = 0 ∨ 2 ^ k ≤ n)) ∧ ks.map PEnt.p = kidsP xp (k + 1) n ∧ (∀ y ∈ ks, PAt w' y) ∧ RowP w w' (.slice adk n capk) ks ∧ Fr [] w w') := by
  obtain ⟨k, hk⟩ := top_ex n
  have hk2 := top_small hn hk
  have hd12 : xp.length ≤ 12 := he.deep
  refine (kids_ok w hL xa xn xc xl xp he.lab he.len he.bytes he.plain n k (by omega) hk).mono ?_
  rintro e w6 (⟨vk, xs, rfl, hKT⟩ | ⟨i, hi, _, hlong, _⟩)
  · obtain ⟨ks, hkl, hkv, hkp, hke, hkr⟩ := kids_ents hKT he.narrow hd hk2
    obtain ⟨adk, capk, rfl, hck, hks⟩ := hkr.shape
    rw [hkl] at hkr ⊢
    exact ⟨adk, capk, ks, k, rfl, hkl, hk, hkp, hke, hkr, hKT.fr⟩
  · exfalso
    have h1 := Narrow.len (he.narrow.kid (k := k) (i := i + 1) hk2)
    rw [List.length_append] at h1
    simp only [List.length_cons, List.length_nil] at h1
    omega
theorem push_kids {w1 w5 w6 : World} {vr vo vk : Value} {R O : List PEnt} {x : PEnt} {ks : List PEnt} {n : Nat} (p : Push w1 w5 vr vo R O x [] 0) (hkl : ks.length = n) (hke : ∀ y ∈ ks, PAt w6 y) (hkr : RowP w5 w6 vk ks) (f6 : Fr [] w5 w6) : Push w1 w6 vr vo R O x ks n ∧ RowP w1 w6 vk ks ∧ Two vo vk := by
  have q := p.kept f6
  refine ⟨⟨q.row, ?_, q.two, fun e he => ?_, q.fr⟩, ⟨hkr.own, fun g hg => Nat.le_trans p.fr.size (hkr.new g hg)⟩, fun g hg e => ?_⟩
  · have := q.open_
    rw [← hkl, List.drop_length]
    simpa using this
  · simp only [List.mem_append] at he
    rcases he with he | he
    · refine q.ents e ?_
      simp only [List.append_nil, List.mem_append]
      exact he
    · exact hke e he
  · have h1 := (p.open_.own.lt g hg).2
    have h2 := hkr.new g e
    omega
/-- After, of a label whatever it is: bytes. -/
theorem after_fine (w : World) (xa : Option Addr) (xn xc : Nat) (xl : List UInt8) (xp : Path) (he : PAt w ⟨xa, xn, xc, xl, xp⟩) :
    Calls Tryd.prog 21 #[.slice xa xn xc] w fun r w' => ∃ ea en ec el, r = .returned (.slice ea en ec) ∧ Hid (el.length = en ∧ BytesAt w' ea el ∧ (xp ≠ [] → Rep (mkS el) (endR xp).length (endR xp))) ∧ Fr [] w w' := by
  by_cases hne : xp = []
  · subst hne
    refine (after_root w xa xn xc xl he.lab he.len he.bytes he.plain).mono ?_
    rintro e w' ⟨rfl, f⟩
    exact ⟨none, 0, 0, [], rfl, ⟨rfl, BytesAt.nil _ _, fun h => absurd rfl h⟩, f⟩
  · refine (after_yes w xa xn xc xl xp he.lab he.len he.bytes he.plain hne).mono ?_
    rintro e w' ⟨v, l', rfl, hR, o, f⟩
    obtain ⟨ad, cap, rfl, hb, _⟩ := o.use
    exact ⟨ad, l'.length, cap, l', rfl, ⟨rfl, hb, fun _ => hR⟩, f⟩
/-- What the second half asks. -/
theorem tour_cmp {w : World} {R : List PEnt} (T : (R.map PEnt.p).Pairwise ltS) (hE : ∀ e ∈ R, PAt w e) {i k : Nat} {x y : PEnt} (hx : R[i]? = some x) (hy : R[k]? = some y) : compareBytes x.l y.l = if i < k then -1 else if k < i then 1 else 0 := by
  have hxm := List.mem_of_getElem? hx
  have hym := List.mem_of_getElem? hy
  have key : ∀ {i k : Nat} {x y : PEnt}, R[i]? = some x → R[k]? = some y → i < k → ltS x.p y.p := fun {i k x y} h1 h2 h => by
    have := List.pairwise_iff_getElem.1 T i k (by have := (List.getElem?_eq_some_iff.1 h1).1; simpa using this) (by have := (List.getElem?_eq_some_iff.1 h2).1; simpa using this) h
    obtain ⟨q1, rfl⟩ := List.getElem?_eq_some_iff.1 h1
    obtain ⟨q2, rfl⟩ := List.getElem?_eq_some_iff.1 h2
    simpa using this
  rcases Nat.lt_trichotomy i k with h | h | h
  · rw [if_pos h]
    exact ltS_less (hE x hxm).lab (hE y hym).lab (key hx hy h)
  · subst h
    rw [hx] at hy
    cases hy
    rw [if_neg (by omega), if_neg (by omega)]
    exact cb_self _
  · rw [if_neg (by omega), if_pos h, cb_sym, ltS_less (hE y hym).lab (hE x hxm).lab (key hy hx h)]
    rfl
theorem tour_abv {w : World} {R : List PEnt} (T : (R.map PEnt.p).Pairwise ltS) (hE : ∀ e ∈ R, PAt w e) {i k : Nat} {x y : PEnt} (hx : R[i]? = some x) (hy : R[k]? = some y) (hi : 0 < i) (hik : i < k) {e : List UInt8} (hR : x.p ≠ [] → Rep (mkS e) (endR x.p).length (endR x.p)) : abv x.p y.p = decide (compareBytes y.l e < 0) := by
  have key : ∀ {i k : Nat} {x y : PEnt}, R[i]? = some x → R[k]? = some y → i < k → ltS x.p y.p := fun {i k x y} h1 h2 h => by
    have := List.pairwise_iff_getElem.1 T i k (by have := (List.getElem?_eq_some_iff.1 h1).1; simpa using this) (by have := (List.getElem?_eq_some_iff.1 h2).1; simpa using this) h
    obtain ⟨q1, rfl⟩ := List.getElem?_eq_some_iff.1 h1
    obtain ⟨q2, rfl⟩ := List.getElem?_eq_some_iff.1 h2
    simpa using this
  have hym := List.mem_of_getElem? hy
  have h0 : 0 < R.length := by have := (List.getElem?_eq_some_iff.1 hx).1; omega
  have hne := (key (List.getElem?_eq_getElem h0) hx hi).ne
  rcases key hx hy hik with ⟨r, hr, e1⟩ | hd
  · rw [e1, abv_app x.p r hr]
    have hM := (hE y hym).lab
    rw [e1] at hM
    rw [end_less hne hM (hR hne)]
    rfl
  · rw [abv_dv hd (hE y hym).lab.ok, end_dv hd (hE y hym).lab (hR hne)]
    rfl
/-- The row that is told. -/
structure Told (w1 w : World) (v : Value) (R : List PEnt) : Prop where
  row : RowP w1 w v R
  ents : ∀ e ∈ R, PAt w e
  told : (R.map PEnt.p).Pairwise ltS
  fr : Fr [] w1 w
theorem Told.kept {w1 w w' : World} {v : Value} {R : List PEnt} (h : Told w1 w v R) (f : Fr [] w w') : Told w1 w' v R := ⟨h.row.kept f (by simp), fun e he => (h.ents e he).kept f, h.told, h.fr.trans f⟩
theorem TAt.told {w1 w : World} {vr vo : Value} {R O : List PEnt} (h : TAt w1 w vr vo R O) : Told w1 w vr R := ⟨h.row, fun e he => h.ents e (List.mem_append_left _ he), h.tour.told, h.fr⟩
theorem Told.at {w1 w : World} {ad : Option Addr} {n c : Nat} {R : List PEnt} (h : Told w1 w (.slice ad n c) R) {i : Nat} (hi : i < R.length) : ∃ g x, ad = some ⟨g, 0, none⟩ ∧ R[i]? = some x ∧ w.cell? ⟨g, i, none⟩ = some (.slice x.ad x.n x.cap) ∧ PAt w x := by
  obtain ⟨ad', cap', e, _, hr⟩ := h.row.shape
  cases e
  rcases hr with ⟨_, e⟩ | ⟨g, rfl, _, hc⟩
  · rw [e] at hi; simp at hi
  · exact ⟨g, R[i], rfl, List.getElem?_eq_getElem hi, hc i _ (List.getElem?_eq_getElem hi), h.ents _ (List.getElem_mem hi)⟩
/-- One child more on the stack. -/
theorem push_one {w1 wr w4 : World} {vr vo vk : Value} {R O : List PEnt} {x : PEnt} {ks : List PEnt} {i : Nat} {e : PEnt} {g cap m : Nat} {ob : Obj} (h : Push w1 wr vr vo R O x ks (i + 1)) (hk : RowP w1 wr vk ks) (h1 : Two vo vk) (he : ks[i]? = some e) (hm : (O ++ (ks.drop (i + 1)).reverse).length = m)
    (o : w4.ownsRow 0 22 1 (.slice (some ⟨g, 0, none⟩) (m + 1) cap) (m + 1) ((O ++ (ks.drop (i + 1)).reverse).map PEnt.val ++ [e.val])) (f : Fr vo.ownBlock.toList (wr.alloc ob) w4) (at4 : vo.ownBlock = some g ∨ g = (wr.alloc ob).heap.size) :
    Push w1 w4 vr (.slice (some ⟨g, 0, none⟩) (m + 1) cap) R O x ks i ∧ RowP w1 w4 vk ks ∧ Two (.slice (some ⟨g, 0, none⟩) (m + 1) cap) vk := by
  subst hm
  have h2 := h.kept (frA wr ob)
  have hk2 := hk.kept (frA wr ob) (by simp)
  have hd : ks.drop i = e :: ks.drop (i + 1) := by
    have hi := (List.getElem?_eq_some_iff.1 he)
    obtain ⟨hl, hg⟩ := hi
    rw [List.drop_eq_getElem_cons hl, hg]
  refine ⟨⟨h2.row.kept f h2.two.symm.notin, ?_, (two_push h2.two.symm h2.row.own at4).symm, fun y hy => PAt.row (h2.ents y hy) h2.open_.own f, fr_row h2.open_ h2.fr f⟩, hk2.kept f h1.notin, two_push h1 hk2.own at4⟩
  rw [hd, List.reverse_cons, ← List.append_assoc]
  exact RowP.push h2.open_ h2.fr.size o at4
end Go.Proofs.YtddcilmeignlmaaDoor
