/-
  An argument that is a row of nodes: none has no room.
-/
import Derived.Test.YtdfgmdddnehocabDoorRows
import Derived.Test.YtdfgmdddnehocabDoorTAwake
import Derived.Lib.LaidTab
import Derived.Lib.LaidU8T
import Derived.LaidMore
import Derived.Lay
import Derived.ProofKit
import Derived.HandedShaped
import Derived.Stop.Joined
import Derived.Stop.LaidErr
import Derived.Deep.Slices
import Derived.SizedLaws
namespace Go.Proofs.YtdfgmdddnehocabDoor
open Go.ChangeShapes Go.WideShapes Go.ChangeAt Go.RowKit Go.Lib

def laidL : List (String × DataW Unit) := [("unicode/utf8.acceptRanges", Rows.laid_unicode_utf8_acceptRanges), ("parchment/chars.spans", Rows.laid_parchment_chars_spans), ("unicode.asciiFold", Rows.laid_unicode_asciiFold), ("unicode.caseOrbit", Rows.laid_unicode_caseOrbit), ("parchment/tree.looks", Rows.laid_parchment_tree_looks), ("unicode.CaseRanges", Rows.laid_unicode_CaseRanges), ("unicode/utf8.first", Rows.laid_unicode_utf8_first)]

theorem acceptEq : (Rows.laid_unicode_utf8_acceptRanges : DataW Unit) = Lib.acceptData := by kernel_rfl
theorem firstEq : (Rows.laid_unicode_utf8_first : DataW Unit) = Lib.firstData := by kernel_rfl
def spanData (x : Int × Int × Nat) : DataW Unit := .agg [.lit (.int .i32 x.1), .lit (.int .i32 x.2.1), .lit (.int .u8 (x.2.2 : Int))]
theorem spansEq : (Rows.laid_parchment_chars_spans : DataW Unit) = .agg (tab.map spanData) := by kernel_rfl
def lookData (x : Nat × Nat × Nat) : DataW Unit := .agg [.lit (.int .u8 (x.1 : Int)), .lit (.int .u8 (x.2.1 : Int)), .lit (.int .u8 (x.2.2 : Int))]
theorem looksEq : (Rows.laid_parchment_tree_looks : DataW Unit) = .agg (lkTab.map lookData) := by kernel_rfl
def foldTab : List Int := (List.range 128).map fun (i : Nat) => if i = 107 then 8490 else if i = 115 then 383 else if 65 ≤ i ∧ i ≤ 90 then (i : Int) + 32 else if 97 ≤ i ∧ i ≤ 122 then (i : Int) - 32 else (i : Int)
theorem foldEq' : (Rows.laid_unicode_asciiFold : DataW Unit) = Lib.tabData .u16 foldTab := by kernel_rfl

theorem sp0 : Tryd.prog.globalNamed "parchment/chars.spans" = some 4 := by kernel_rfl
theorem sp1 : (Tryd.prog.globals[4]?).map (·.type) = some 96 := by kernel_rfl
theorem sp2 : Tryd.prog.cellsOf 95 = 3 := by kernel_rfl
theorem sp3 : Tryd.prog.cellsOf 21 = 1 := by kernel_rfl
theorem sp4 : Tryd.prog.cellsOf 5 = 1 := by kernel_rfl
theorem lk0' : Tryd.prog.globalNamed "parchment/tree.looks" = some 0 := by kernel_rfl
theorem lk1 : (Tryd.prog.globals[0]?).map (·.type) = some 81 := by kernel_rfl
theorem lk2 : Tryd.prog.cellsOf 72 = 3 := by kernel_rfl
theorem af0 : Tryd.prog.globalNamed "unicode.asciiFold" = some 5 := by kernel_rfl
theorem af1 : (Tryd.prog.globals[5]?).map (·.type) = some 98 := by kernel_rfl
theorem af2 : Tryd.prog.cellsOf 97 = 1 := by kernel_rfl
theorem af3 : Tryd.prog.cellsOf 98 = 128 := by kernel_rfl

theorem field_cell {H : Type} {enc : TypeId × Value → H} {P : Program} {w : World} {base : Nat} {sp : Nat → Bool} {held : Bool} {fuel : Nat} {t : TypeId} {fs : Array Field} {k : IntKind} {cs : List Value} {ds : List (DataW H)} {p : List MemPlace} (ht : P.underlying t = some (.struct fs))
    (h : DataW.trod enc P w base sp held fuel t cs = some (.agg ds, p)) (i : Nat) (f : Field) (hf : fs[i]? = some f) (hu : P.underlying f.type = some (.int k)) (hc : P.cellsOf f.type = 1) (z : Int) (hd : ds[i]? = some (.lit (.int k z))) : cs[f.offset]? = some (.int k z) := by
  obtain ⟨xs, n, rfl, hx, hl, hxl, hall⟩ := DataW.trod_struct ht h
  have hxs : xs.map (·.1) = ds := by
    have := congrArg Prod.fst hx
    simpa using this.symm
  have hi : i < fs.size := (Array.getElem?_eq_some_iff.1 hf).1
  have h1 := hall i f hf
  obtain ⟨b, hb⟩ : ∃ b, xs[i]? = some b := ⟨xs[i]'(by omega), List.getElem?_eq_getElem (by omega)⟩
  rw [hb, hc] at h1
  obtain ⟨y, hcz, hbe, _⟩ := DataW.trod_int hu h1
  have h2 : cs[f.offset]? = some (.int k y) := by
    have := congrArg (·[0]?) hcz
    simpa [List.getElem?_take, List.getElem?_drop] using this
  have h3 : (xs.map (·.1))[i]? = some b.1 := by simp [hb]
  rw [hxs, hd] at h3
  have h4 := Option.some.inj h3
  rw [hbe] at h4
  simp only [DataW.lit.injEq, Lit.int.injEq, true_and] at h4
  rw [h2, h4]

theorem of_spans {W : World} (h : VarReads Tryd.prog W "parchment/chars.spans" (.agg (tab.map spanData))) : Spans W := by
  obtain ⟨g, t, cs, fuel, p, hg, hty, hvar, hd⟩ := h
  obtain rfl := Option.some.inj (sp0.symm.trans hg)
  obtain rfl := Option.some.inj (sp1.symm.trans hty)
  intro j hj
  obtain ⟨fuel', d, q, hdi, he⟩ := array_elem Tryd.underlying96 hd j hj
  have hl : j < tab.length := by rw [tab_length]; exact hj
  have hdj : d = spanData (tab.getD j (0, 0, 0)) := by
    rw [List.getElem?_map, List.getElem?_eq_getElem hl] at hdi
    have e : tab.getD j (0, 0, 0) = tab[j] := by simp [List.getD, hl]
    rw [e]
    exact (Option.some.inj hdi).symm
  subst hdj
  rw [sp2] at he
  have f0 := field_cell Tryd.underlying95 he 0 _ rfl Tryd.underlying21 sp3 _ rfl
  have f1 := field_cell Tryd.underlying95 he 1 _ rfl Tryd.underlying21 sp3 _ rfl
  have f2 := field_cell Tryd.underlying95 he 2 _ rfl Tryd.underlying5 sp4 _ rfl
  have c : ∀ off, W.cell? ⟨4, off, none⟩ = cs.toList[off]? := fun off => by rw [World.var?_cell sp0 hvar off, Array.getElem?_toList]
  simp only [List.getElem?_take, List.getElem?_drop] at f0 f1 f2
  refine ⟨?_, ?_, ?_⟩
  · rw [c]; simpa using f0
  · rw [c]; simpa using f1
  · rw [c]; simpa using f2
theorem of_looks {W : World} (h : VarReads Tryd.prog W "parchment/tree.looks" (.agg (lkTab.map lookData))) : Looks W := by
  obtain ⟨g, t, cs, fuel, p, hg, hty, hvar, hd⟩ := h
  obtain rfl := Option.some.inj (lk0'.symm.trans hg)
  obtain rfl := Option.some.inj (lk1.symm.trans hty)
  intro j hj
  obtain ⟨fuel', d, q, hdi, he⟩ := array_elem Tryd.underlying81 hd j hj
  have hl : j < lkTab.length := hj
  have hdj : d = lookData (lkAt j) := by
    rw [List.getElem?_map, List.getElem?_eq_getElem hl] at hdi
    have e : lkAt j = lkTab[j] := by simp [lkAt, List.getD, hl]
    rw [e]
    exact (Option.some.inj hdi).symm
  subst hdj
  rw [lk2] at he
  have f0 := field_cell Tryd.underlying72 he 0 _ rfl Tryd.underlying5 sp4 _ rfl
  have f1 := field_cell Tryd.underlying72 he 1 _ rfl Tryd.underlying5 sp4 _ rfl
  have f2 := field_cell Tryd.underlying72 he 2 _ rfl Tryd.underlying5 sp4 _ rfl
  have c : ∀ off, W.cell? ⟨0, off, none⟩ = cs.toList[off]? := fun off => by rw [World.var?_cell lk0' hvar off, Array.getElem?_toList]
  simp only [List.getElem?_take, List.getElem?_drop] at f0 f1 f2
  refine ⟨?_, ?_, ?_⟩
  · rw [c]; simpa using f0
  · rw [c]; simpa using f1
  · rw [c]; simpa using f2
theorem fold_len : foldTab.length = 128 := by simp [foldTab]
set_option maxRecDepth 100000 in
theorem of_fold {W : World} (h : TabIs Tryd.prog W "unicode.asciiFold" .u16 foldTab) : Folds W :=
  ⟨h.cell af0 120 (by rw [fold_len]; omega), h.cell af0 88 (by rw [fold_len]; omega), h.cell af0 109 (by rw [fold_len]; omega), h.cell af0 77 (by rw [fold_len]; omega), h.cell af0 108 (by rw [fold_len]; omega), h.cell af0 76 (by rw [fold_len]; omega)⟩
theorem of_laid {W : World} (h : laidMetH Tryd.prog laidL W) (hs : W.ShapedOpen Tryd.prog) : LaidW W := by
  rw [MakeChecks.laidMetH_plain _ _ _ (by kernel_rfl)] at h
  have h3 := Lib.laidMet.reads h (n := "unicode/utf8.acceptRanges") (d := Rows.laid_unicode_utf8_acceptRanges) (.head _)
  have h4 := Lib.laidMet.reads h (n := "parchment/chars.spans") (d := Rows.laid_parchment_chars_spans) (.tail _ (.head _))
  have h5 := h.tail.tail
  have h0 := Lib.laidMet.reads h (n := "parchment/tree.looks") (d := Rows.laid_parchment_tree_looks) (.tail _ (.tail _ (.tail _ (.tail _ (.head _)))))
  have h2 := Lib.laidMet.reads h (n := "unicode/utf8.first") (d := Rows.laid_unicode_utf8_first) (.tail _ (.tail _ (.tail _ (.tail _ (.tail _ (.tail _ (.head _)))))))
  rw [acceptEq] at h3
  rw [firstEq] at h2
  rw [spansEq] at h4
  rw [looksEq] at h0
  rw [foldEq'] at h5
  refine ⟨⟨⟨of_spans h4, utf8Tabs_of_readsT (ρ := Tryd.laysValid_ren) (U8Types.of196 Tryd.laysValid) ⟨by kernel_rfl, by kernel_rfl, by kernel_rfl, by kernel_rfl, by kernel_rfl, by kernel_rfl, by kernel_rfl⟩ h2 h3⟩, of_fold (Lib.tabIs_of_head af0 af1 Tryd.underlying98 Tryd.underlying97 af2 af3 h5), ?_⟩, of_looks h0⟩
  exact cell_of_shapedOpen_int (P := Tryd.prog) (g := 1) (t := 3) (zero := #[.int .i64 0]) hs (of_decide_eq_true (by kernel_rfl)) (by kernel_rfl) rfl (by kernel_rfl) (by kernel_rfl) Tryd.underlying3

theorem door_met (os : Os) (args : Array Value) : laidMetH Tryd.prog laidL ((World.laidAll Tryd.prog os laidL).forCall (fun _ _ => 0) ⟨#[], args, []⟩).memory := by
  rw [MakeChecks.laidMetH_plain _ _ _ (by kernel_rfl)]
  exact laidMet_laidAll _ (by kernel_rfl) (by kernel_rfl)

section
variable {H : Type} {enc : TypeId × Value → H}
/-- The wrap of a row that lists variables, the world's shape kept: what a call does, from a contract. -/
theorem wrapped {C : Checked} {os : Os} {f : FuncId} {fn : Func} {s : ChangeSpec} {X : World → Array Value → Prop}
    (hX : ∀ (w w' : World) (args : Array Value), w.heap = w'.heap → X w args → X w' args)
    (own : ownKnob C.prog.godebug = none) (started : os.Started) (noInit : C.prog.inits.idxOf? f = none) (hfn : C.prog.funcs[f]? = some fn)
    (witness : ∃ (w : World) (tape : Tape) (i : Input), w.os = os ∧ (w.forCall tape i).Shaped C.prog ∧ i.vars = [] ∧ Input.okWide C.prog (w.forCall tape i) .any w.heap.size f i ∧
      ((s.pre enc C.prog fn [] false (w.forCall tape i).memory i.args ∧ X (w.forCall tape i).memory i.args) ∧ sizedMet enc C.prog fn (OpenSpec.ofChange s) false (w.forCall tape i).memory i.args) ∧ Assume.holds {} C.prog (lone (Frame.enter C.prog f i.args .normal) [] (w.forCall tape i)))
    (contract : ∀ (W : World) (base : Nat) (args : Array Value) (ds gs : List (DataW H)) (before : List MemPlace),
      (∀ (j : Nat) t v, fn.params[j]? = some t → args[j]? = some v → Value.okWide C.prog W .any base t v) →
      DataW.Whole enc C.prog fn.params.toList s.vars false W args.toList ds gs before →
      (DataW.weightsEach C.prog (fn.params.toList ++ s.plain.varTypes C.prog) (ds ++ gs)).all (· ≤ reachBytes) = true → X W args → W.ShapedOpen C.prog →
      Calls C.prog f args W fun e W' => ∃ v, e = .returned v ∧ s.post enc C.prog fn false true false false W args v W') :
    ReturnsInHanded {} C os f .any (fun w args => (s.pre enc C.prog fn [] false w args ∧ X w args) ∧ sizedMet enc C.prog fn (OpenSpec.ofChange s) false w args) (s.post enc C.prog fn false true false false) := by
  refine returnsInHanded_of_calls own started noInit witness fun w tape i _ hsh _ hok hpre _ => ?_
  obtain ⟨_, _, _, fn', hfn', _, _, _, _, hval⟩ := hok
  obtain rfl : fn' = fn := Option.some.inj (hfn'.symm.trans hfn)
  obtain ⟨⟨⟨ds, gs, before, hw, _⟩, hx⟩, hz⟩ := hpre
  refine (contract (w.forCall tape i) w.heap.size i.args ds gs before hval (hw.of_heap (by rfl)) (hz.weights hw) (hX _ _ _ (by rfl) hx) hsh).mono fun e W' ⟨v, he, hp⟩ => ?_
  subst he
  exact ChangeSpec.post_blind hp
end
end Go.Proofs.YtdfgmdddnehocabDoor

namespace Go.Proofs.YtdfgmdddnehocabDoor
open Go.ChangeShapes Go.WideShapes Go.ChangeAt Go.RowKit Go.Deep

theorem Tryd.cellsN : Tryd.prog.cellsOf 30 = 4 := by kernel_rfl
theorem Tryd.cellsK : Tryd.prog.cellsOf 28 = 1 := by kernel_rfl
theorem Tryd.cells9 : Tryd.prog.cellsOf 9 = 1 := by kernel_rfl
theorem Tryd.cells3 : Tryd.prog.cellsOf 3 = 1 := by kernel_rfl
theorem u8_bounds {x : Int} (h : (Lit.int .u8 x).wf = true) : 0 ≤ x ∧ x < 256 := by
  simp [Lit.wf, show IntKind.u8.min = 0 from rfl, show IntKind.u8.max = 255 from rfl] at h
  omega
theorem i64_bd {x : Int} (h : (Lit.int .i64 x).wf = true) : -9223372036854775808 ≤ x ∧ x ≤ 9223372036854775807 := by
  simp [Lit.wf, show IntKind.i64.min = -9223372036854775808 from rfl, show IntKind.i64.max = 9223372036854775807 from rfl] at h
  exact h
/-- no text of a row is longer than memory is. -/
def Short (t : List Nd) : Prop := ∀ i, i < t.length → (nam t i).size < 140737488355328 ∧ (vlu t i).size < 140737488355328

section
variable {H : Type} {enc : TypeId × Value → H} {w : World} {base : Nat} {spare : Nat → Bool} {held : Bool}
theorem one_of {cs : List Value} {c : Nat} {v : Value} (h : (cs.drop c).take 1 = [v]) : cs[c]? = some v := by
  have := congrArg (·[0]?) h
  simpa [List.getElem?_take, List.getElem?_drop] using this
set_option maxRecDepth 100000 in
theorem node_open {fuel : Nat} {cs : List Value} {x : DataW H × List MemPlace} (h : DataW.trod enc Tryd.prog w base spare held fuel 30 cs = some x) :
    ∃ n : Nd, cs[0]? = some (.int .u8 (n.kind : Nat)) ∧ cs[1]? = some (.string n.name) ∧ cs[2]? = some (.string n.value) ∧ cs[3]? = some (.int .i64 n.parent) ∧ n.kind < 256 ∧ (-9223372036854775808 ≤ n.parent ∧ n.parent ≤ 9223372036854775807) ∧ n.name.size < 9223372036854775808 ∧ n.value.size < 9223372036854775808 ∧
      n.name.size ∈ x.1.weights Tryd.prog 30 ∧ n.value.size ∈ x.1.weights Tryd.prog 30 := by
  obtain ⟨xs, m, rfl, hx, hl, hxl, hall⟩ := DataW.trod_struct Tryd.underlying30 h
  have h0 := hall 0 _ rfl
  have h1 := hall 1 _ rfl
  have h2 := hall 2 _ rfl
  have h3 := hall 3 _ rfl
  match xs, hxl with
  | [x0, x1, x2, x3], _ =>
    have g0 : DataW.trod enc Tryd.prog w base spare held m 28 ((cs.drop 0).take (Tryd.prog.cellsOf 28)) = some x0 := h0
    have g1 : DataW.trod enc Tryd.prog w base spare held m 9 ((cs.drop 1).take (Tryd.prog.cellsOf 9)) = some x1 := h1
    have g2 : DataW.trod enc Tryd.prog w base spare held m 9 ((cs.drop 2).take (Tryd.prog.cellsOf 9)) = some x2 := h2
    have g3 : DataW.trod enc Tryd.prog w base spare held m 3 ((cs.drop 3).take (Tryd.prog.cellsOf 3)) = some x3 := h3
    rw [Tryd.cellsK] at g0
    rw [Tryd.cells9] at g1 g2
    rw [Tryd.cells3] at g3
    obtain ⟨v0, e0, hx0, w0⟩ := DataW.trod_int Tryd.underlying28 g0
    obtain ⟨v1, e1, hx1, w1⟩ := DataW.trod_string Tryd.underlying9 g1
    obtain ⟨v2, e2, hx2, w2⟩ := DataW.trod_string Tryd.underlying9 g2
    obtain ⟨v3, e3, hx3, w3⟩ := DataW.trod_int Tryd.underlying3 g3
    have b0 := u8_bounds w0
    have b3 := i64_bd w3
    have q0 := one_of e0
    have q1 := one_of e1
    have q2 := one_of e2
    have q3 := one_of e3
    unfold maxLen at w1 w2
    refine ⟨⟨v0.toNat, v1, v2, v3⟩, ?_, q1, q2, q3, by show v0.toNat < 256; omega, b3, by show v1.size < _; omega, by show v2.size < _; omega, ?_, ?_⟩
    · rw [q0]
      show some (Value.int .u8 v0) = some (.int .u8 ((v0.toNat : Nat) : Int))
      rw [Int.toNat_of_nonneg b0.1]
    · rw [hx]
      simp [DataW.weights, DataW.weightsEach, Tryd.underlying30, hx1]
    · rw [hx]
      simp [DataW.weights, DataW.weightsEach, Tryd.underlying30, hx2]
theorem weightsAll_mem {P : Program} {e : TypeId} : ∀ {ds : List (DataW H)} {d : DataW H}, d ∈ ds → ∀ n ∈ d.weights P e, n ∈ DataW.weightsAll P e ds
  | d0 :: r, d, h, n, hn => by
    simp only [DataW.weightsAll, List.mem_append]
    rcases List.mem_cons.1 h with rfl | h
    · exact Or.inl hn
    · exact Or.inr (weightsAll_mem h n hn)
set_option maxRecDepth 100000 in
theorem nodes_open {fuel : Nat} {cs : List Value} {x : DataW H × List MemPlace} (h : DataW.trod enc Tryd.prog w base spare held fuel 22 cs = some x) (hz : ∀ n ∈ x.1.weights Tryd.prog 22, n ≤ reachBytes) :
    ∃ ad len cap t, cs = [.slice ad len cap] ∧ t.length = len ∧ len ≤ cap ∧ NodesAt w ad t ∧ Sane t ∧ Short t := by
  rcases open_slice Tryd.underlying22 h with ⟨hcs, _⟩ | ⟨a, len, cap, m, n, D, Pl, rfl, _, hl, hm, hmm, hx1, hx⟩
  · exact ⟨none, 0, 0, [], hcs, rfl, Nat.le_refl _, (fun i hi => absurd hi (Nat.not_lt_zero _)), (fun i hi => absurd hi (Nat.not_lt_zero _)), (fun i hi => absurd hi (Nat.not_lt_zero _))⟩
  · have hlm : len ≤ m := by rw [hmm]; split <;> omega
    rw [Tryd.cellsN] at hx
    have hel : ∀ i, i < m → ∃ y : Nd, (w.cell? (a.add (i * 4)) = some (.int .u8 (y.kind : Nat)) ∧ w.cell? ((a.add (i * 4)).add 1) = some (.string y.name) ∧ w.cell? ((a.add (i * 4)).add 2) = some (.string y.value) ∧ w.cell? ((a.add (i * 4)).add 3) = some (.int .i64 y.parent)) ∧ y.kind < 256 ∧ (-9223372036854775808 ≤ y.parent ∧ y.parent ≤ 9223372036854775807) ∧ y.name.size < 9223372036854775808 ∧ y.value.size < 9223372036854775808 ∧ (i < len → y.name.size ≤ reachBytes ∧ y.value.size ≤ reachBytes) := by
      intro i hi
      obtain ⟨cs', h1, h2⟩ := hx i hi
      obtain ⟨_, hlen, hc⟩ := World.cells?_some h1
      obtain ⟨y, y0, y1, y2, y3, k0, k1, k2, k3, m1, m2⟩ := node_open h2
      have hmem : i < len → ∀ z ∈ (D i).weights Tryd.prog 30, z ≤ reachBytes := fun hil z hzm => hz z (by
        rw [hx1]
        simp only [DataW.weights, Tryd.underlying22, List.mem_cons, List.mem_append]
        exact Or.inr (Or.inl (weightsAll_mem (List.mem_map.2 ⟨i, List.mem_range.2 hil, rfl⟩) z hzm)))
      refine ⟨y, ⟨?_, ?_, ?_, ?_⟩, k0, k1, k2, k3, fun hil => ⟨hmem hil _ m1, hmem hil _ m2⟩⟩
      · have := hc 0 (by omega)
        rw [y0] at this
        simpa [Addr.add] using this
      · have := hc 1 (by omega)
        rw [y1] at this
        exact this
      · have := hc 2 (by omega)
        rw [y2] at this
        exact this
      · have := hc 3 (by omega)
        rw [y3] at this
        exact this
    haveI : Inhabited Nd := ⟨nd0⟩
    obtain ⟨f, hf⟩ := choose_lt (α := Nd) hel
    have hnth : ∀ i, i < len → nth ((List.range len).map f) i = f i := fun i hi => by
      rw [nth_lt (by simpa using hi)]
      simp
    have hrb := reachBytes_lt
    refine ⟨some a, len, cap, (List.range len).map f, rfl, by simp, hl, ?_, ?_, ?_⟩
    · intro i hi
      have hi' : i < len := by simpa using hi
      have h0 := (hf 0 (by omega)).1.1
      obtain ⟨b, off, spot⟩ := a
      have hspot : spot = none := by simpa [Addr.add] using World.cell?_spot h0
      subst hspot
      obtain ⟨⟨c0, c1, c2, c3⟩, _⟩ := hf i (by omega)
      refine ⟨b, off, rfl, ?_⟩
      unfold knd nam vlu par
      rw [hnth i hi']
      simp only [Addr.add_mid] at c0 c1 c2 c3
      exact ⟨c0, c1, c2, c3⟩
    · intro i hi
      have hi' : i < len := by simpa using hi
      obtain ⟨_, k0, k1, k2, k3, _⟩ := hf i (by omega)
      unfold knd nam vlu par
      rw [hnth i hi']
      exact ⟨k0, k1, k2, k3⟩
    · intro i hi
      have hi' : i < len := by simpa using hi
      obtain ⟨_, k0, k1, k2, k3, kz⟩ := hf i (by omega)
      have := kz hi'
      unfold nam vlu
      rw [hnth i hi']
      omega
end
end Go.Proofs.YtdfgmdddnehocabDoor

namespace Go.Proofs.YtdfgmdddnehocabDoor
open Go.ChangeShapes Go.WideShapes Go.ChangeAt Go.RowKit Go.Deep
section
variable {H : Type} {enc : TypeId × Value → H} {w : World} {base : Nat} {spare : Nat → Bool} {held : Bool}
theorem nodes_cap {fuel : Nat} {ad : Option Addr} {len cap : Nat} {x : DataW H × List MemPlace} (h : DataW.trod enc Tryd.prog w base spare held fuel 22 [.slice ad len cap] = some x) : ad = none → cap = 0 := by
  intro e
  subst e
  rcases open_slice Tryd.underlying22 h with ⟨hcs, _⟩ | ⟨a, len, cap, m, n, D, Pl, hcs, _⟩
  · simp at hcs
    exact hcs.2
  · simp at hcs
end
end Go.Proofs.YtdfgmdddnehocabDoor

