/-
  From the row's listed variables, and the world's shape, to what the walks ask; the witness' world meets the condition.
-/
import Derived.Test.YtjdcfaaoicnajaaDoorRows
import Derived.Test.YtjdcfaaoicnajaaDoorTAwake
import Derived.Lib.LaidTab
import Derived.Lib.LaidU8T
import Derived.LaidMore
import Derived.Lay
import Derived.ProofKit
import Derived.HandedShaped
import Derived.Stop.Joined
import Derived.Stop.LaidErr
namespace Go.Proofs.YtjdcfaaoicnajaaDoor
open Go.ChangeShapes Go.WideShapes Go.ChangeAt Go.RowKit Go.Lib

def laidL : List (String × DataW Unit) := [("unicode/utf8.acceptRanges", Rows.laid_unicode_utf8_acceptRanges), ("parchment/chars.spans", Rows.laid_parchment_chars_spans), ("unicode.asciiFold", Rows.laid_unicode_asciiFold), ("unicode.caseOrbit", Rows.laid_unicode_caseOrbit), ("parchment/tree.looks", Rows.laid_parchment_tree_looks), ("unicode.CaseRanges", Rows.laid_unicode_CaseRanges), ("unicode/utf8.first", Rows.laid_unicode_utf8_first)]

theorem acceptEq : (Rows.laid_unicode_utf8_acceptRanges : DataW Unit) = Lib.acceptData := by kernel_rfl
theorem firstEq : (Rows.laid_unicode_utf8_first : DataW Unit) = Lib.firstData := by kernel_rfl
def spanData (x : Int × Int × Nat) : DataW Unit := .agg [.lit (.int .i32 x.1), .lit (.int .i32 x.2.1), .lit (.int .u8 (x.2.2 : Int))]
theorem spansEq : (Rows.laid_parchment_chars_spans : DataW Unit) = .agg (tab.map spanData) := by kernel_rfl
def lookData (x : Nat × Nat × Nat) : DataW Unit := .agg [.lit (.int .u8 (x.1 : Int)), .lit (.int .u8 (x.2.1 : Int)), .lit (.int .u8 (x.2.2 : Int))]
theorem looksEq : (Rows.laid_parchment_tree_looks : DataW Unit) = .agg (lkTab.map lookData) := by kernel_rfl
def foldTab : List Int := (List.range 128).map fun (i : Nat) => if i = 107 then 8490 else if i = 115 then 383 else if 65 ≤ i ∧ i ≤ 90 then (i : Int) + 32 else if 97 ≤ i ∧ i ≤ 122 then (i : Int) - 32 else (i : Int)
theorem foldEq' : (Rows.laid_unicode_asciiFold : DataW Unit) = Lib.tabData .u16 foldTab := by kernel_rfl

theorem sp0 : Tryd.prog.globalNamed "parchment/chars.spans" = some 3 := by kernel_rfl
theorem sp1 : (Tryd.prog.globals[3]?).map (·.type) = some 100 := by kernel_rfl
theorem sp2 : Tryd.prog.cellsOf 99 = 3 := by kernel_rfl
theorem sp3 : Tryd.prog.cellsOf 21 = 1 := by kernel_rfl
theorem sp4 : Tryd.prog.cellsOf 5 = 1 := by kernel_rfl
theorem lk0' : Tryd.prog.globalNamed "parchment/tree.looks" = some 0 := by kernel_rfl
theorem lk1 : (Tryd.prog.globals[0]?).map (·.type) = some 86 := by kernel_rfl
theorem lk2 : Tryd.prog.cellsOf 77 = 3 := by kernel_rfl
theorem af0 : Tryd.prog.globalNamed "unicode.asciiFold" = some 4 := by kernel_rfl
theorem af1 : (Tryd.prog.globals[4]?).map (·.type) = some 102 := by kernel_rfl
theorem af2 : Tryd.prog.cellsOf 101 = 1 := by kernel_rfl
theorem af3 : Tryd.prog.cellsOf 102 = 128 := by kernel_rfl

theorem field_cell {H : Type} {enc : TypeId × Value → H} {P : Program} {w : World} {base : Nat} {sp : Nat → Bool} {held : Bool} {fuel : Nat} {t : TypeId} {fs : Array Field} {k : IntKind} {cs : List Value} {ds : List (DataW H)} {p : List MemPlace} (ht : P.underlying t = some (.struct fs))
    (h : DataW.trod enc P w base sp held fuel t cs = some (.agg ds, p)) (i : Nat) (f : Field) (hf : fs[i]? = some f) (hu : P.underlying f.type = some (.int k)) (hc : P.cellsOf f.type = 1) (z : Int) (hd : ds[i]? = some (.lit (.int k z))) : cs[f.offset]? = some (.int k z) := by
  obtain ⟨xs, n, rfl, hx, hl, hxl, hall⟩ := DataW.trod_struct ht h
  have hxs : xs.map (·.1) = ds := by
    have := congrArg Prod.fst hx
    simpa using this.symm
  have hi : i < fs.size := (Array.getElem?_eq_some_iff.1 hf).1
  have h1 := hall i f hf
  obtain ⟨b, hb⟩ : ∃ b, xs[i]? = some b := ⟨xs[i]'(by omega), List.getElem?_eq_getElem (by omega)⟩
  rw [hb, hc] at h1
  obtain ⟨y, hcz, hbe, _⟩ := DataW.trod_int hu h1
  have h2 : cs[f.offset]? = some (.int k y) := by
    have := congrArg (·[0]?) hcz
    simpa [List.getElem?_take, List.getElem?_drop] using this
  have h3 : (xs.map (·.1))[i]? = some b.1 := by simp [hb]
  rw [hxs, hd] at h3
  have h4 := Option.some.inj h3
  rw [hbe] at h4
  simp only [DataW.lit.injEq, Lit.int.injEq, true_and] at h4
  rw [h2, h4]

theorem of_spans {W : World} (h : VarReads Tryd.prog W "parchment/chars.spans" (.agg (tab.map spanData))) : Spans W := by
  obtain ⟨g, t, cs, fuel, p, hg, hty, hvar, hd⟩ := h
  obtain rfl := Option.some.inj (sp0.symm.trans hg)
  obtain rfl := Option.some.inj (sp1.symm.trans hty)
  intro j hj
  obtain ⟨fuel', d, q, hdi, he⟩ := array_elem Tryd.underlying100 hd j hj
  have hl : j < tab.length := by rw [tab_length]; exact hj
  have hdj : d = spanData (tab.getD j (0, 0, 0)) := by
    rw [List.getElem?_map, List.getElem?_eq_getElem hl] at hdi
    have e : tab.getD j (0, 0, 0) = tab[j] := by simp [List.getD, hl]
    rw [e]
    exact (Option.some.inj hdi).symm
  subst hdj
  rw [sp2] at he
  have f0 := field_cell Tryd.underlying99 he 0 _ rfl Tryd.underlying21 sp3 _ rfl
  have f1 := field_cell Tryd.underlying99 he 1 _ rfl Tryd.underlying21 sp3 _ rfl
  have f2 := field_cell Tryd.underlying99 he 2 _ rfl Tryd.underlying5 sp4 _ rfl
  have c : ∀ off, W.cell? ⟨3, off, none⟩ = cs.toList[off]? := fun off => by rw [World.var?_cell sp0 hvar off, Array.getElem?_toList]
  simp only [List.getElem?_take, List.getElem?_drop] at f0 f1 f2
  refine ⟨?_, ?_, ?_⟩
  · rw [c]; simpa using f0
  · rw [c]; simpa using f1
  · rw [c]; simpa using f2
theorem of_looks {W : World} (h : VarReads Tryd.prog W "parchment/tree.looks" (.agg (lkTab.map lookData))) : Looks W := by
  obtain ⟨g, t, cs, fuel, p, hg, hty, hvar, hd⟩ := h
  obtain rfl := Option.some.inj (lk0'.symm.trans hg)
  obtain rfl := Option.some.inj (lk1.symm.trans hty)
  intro j hj
  obtain ⟨fuel', d, q, hdi, he⟩ := array_elem Tryd.underlying86 hd j hj
  have hl : j < lkTab.length := hj
  have hdj : d = lookData (lkAt j) := by
    rw [List.getElem?_map, List.getElem?_eq_getElem hl] at hdi
    have e : lkAt j = lkTab[j] := by simp [lkAt, List.getD, hl]
    rw [e]
    exact (Option.some.inj hdi).symm
  subst hdj
  rw [lk2] at he
  have f0 := field_cell Tryd.underlying77 he 0 _ rfl Tryd.underlying5 sp4 _ rfl
  have f1 := field_cell Tryd.underlying77 he 1 _ rfl Tryd.underlying5 sp4 _ rfl
  have f2 := field_cell Tryd.underlying77 he 2 _ rfl Tryd.underlying5 sp4 _ rfl
  have c : ∀ off, W.cell? ⟨0, off, none⟩ = cs.toList[off]? := fun off => by rw [World.var?_cell lk0' hvar off, Array.getElem?_toList]
  simp only [List.getElem?_take, List.getElem?_drop] at f0 f1 f2
  refine ⟨?_, ?_, ?_⟩
  · rw [c]; simpa using f0
  · rw [c]; simpa using f1
  · rw [c]; simpa using f2
theorem fold_len : foldTab.length = 128 := by simp [foldTab]
set_option maxRecDepth 100000 in
theorem of_fold {W : World} (h : TabIs Tryd.prog W "unicode.asciiFold" .u16 foldTab) : Folds W :=
  ⟨h.cell af0 120 (by rw [fold_len]; omega), h.cell af0 88 (by rw [fold_len]; omega), h.cell af0 109 (by rw [fold_len]; omega), h.cell af0 77 (by rw [fold_len]; omega), h.cell af0 108 (by rw [fold_len]; omega), h.cell af0 76 (by rw [fold_len]; omega)⟩
theorem of_laid {W : World} (h : laidMetH Tryd.prog laidL W) (hs : W.ShapedOpen Tryd.prog) : LaidW W := by
  rw [MakeChecks.laidMetH_plain _ _ _ (by kernel_rfl)] at h
  have h3 := Lib.laidMet.reads h (n := "unicode/utf8.acceptRanges") (d := Rows.laid_unicode_utf8_acceptRanges) (.head _)
  have h4 := Lib.laidMet.reads h (n := "parchment/chars.spans") (d := Rows.laid_parchment_chars_spans) (.tail _ (.head _))
  have h5 := h.tail.tail
  have h0 := Lib.laidMet.reads h (n := "parchment/tree.looks") (d := Rows.laid_parchment_tree_looks) (.tail _ (.tail _ (.tail _ (.tail _ (.head _)))))
  have h2 := Lib.laidMet.reads h (n := "unicode/utf8.first") (d := Rows.laid_unicode_utf8_first) (.tail _ (.tail _ (.tail _ (.tail _ (.tail _ (.tail _ (.head _)))))))
  rw [acceptEq] at h3
  rw [firstEq] at h2
  rw [spansEq] at h4
  rw [looksEq] at h0
  rw [foldEq'] at h5
  refine ⟨⟨⟨of_spans h4, utf8Tabs_of_readsT (ρ := Tryd.laysValid_ren) (U8Types.of196 Tryd.laysValid) ⟨by kernel_rfl, by kernel_rfl, by kernel_rfl, by kernel_rfl, by kernel_rfl, by kernel_rfl, by kernel_rfl⟩ h2 h3⟩, of_fold (Lib.tabIs_of_head af0 af1 Tryd.underlying102 Tryd.underlying101 af2 af3 h5), ?_⟩, of_looks h0⟩
  exact cell_of_shapedOpen_int (P := Tryd.prog) (g := 7) (t := 3) (zero := #[.int .i64 0]) hs (of_decide_eq_true (by kernel_rfl)) (by kernel_rfl) rfl (by kernel_rfl) (by kernel_rfl) Tryd.underlying3

theorem door_met (os : Os) (args : Array Value) : laidMetH Tryd.prog laidL ((World.laidAll Tryd.prog os laidL).forCall (fun _ _ => 0) ⟨#[], args, []⟩).memory := by
  rw [MakeChecks.laidMetH_plain _ _ _ (by kernel_rfl)]
  exact laidMet_laidAll _ (by kernel_rfl) (by kernel_rfl)

section
variable {H : Type} {enc : TypeId × Value → H}
/-- The wrap of a row that lists variables, the world's shape kept: what a call does, from a contract. -/
theorem wrapped {C : Checked} {os : Os} {f : FuncId} {fn : Func} {s : ChangeSpec} {X : World → Array Value → Prop}
    (hX : ∀ (w w' : World) (args : Array Value), w.heap = w'.heap → X w args → X w' args)
    (own : ownKnob C.prog.godebug = none) (started : os.Started) (noInit : C.prog.inits.idxOf? f = none) (hfn : C.prog.funcs[f]? = some fn)
    (witness : ∃ (w : World) (tape : Tape) (i : Input), w.os = os ∧ (w.forCall tape i).Shaped C.prog ∧ i.vars = [] ∧ Input.okWide C.prog (w.forCall tape i) .any w.heap.size f i ∧
      ((s.pre enc C.prog fn [] false (w.forCall tape i).memory i.args ∧ X (w.forCall tape i).memory i.args) ∧ sizedMet enc C.prog fn (OpenSpec.ofChange s) false (w.forCall tape i).memory i.args) ∧ Assume.holds {} C.prog (lone (Frame.enter C.prog f i.args .normal) [] (w.forCall tape i)))
    (contract : ∀ (W : World) (base : Nat) (args : Array Value) (ds gs : List (DataW H)) (before : List MemPlace),
      (∀ (j : Nat) t v, fn.params[j]? = some t → args[j]? = some v → Value.okWide C.prog W .any base t v) →
      DataW.Whole enc C.prog fn.params.toList s.vars false W args.toList ds gs before →
      (DataW.weightsEach C.prog (fn.params.toList ++ s.plain.varTypes C.prog) (ds ++ gs)).all (· ≤ reachBytes) = true → X W args → W.ShapedOpen C.prog →
      Calls C.prog f args W fun e W' => ∃ v, e = .returned v ∧ s.post enc C.prog fn false true false false W args v W') :
    ReturnsInHanded {} C os f .any (fun w args => (s.pre enc C.prog fn [] false w args ∧ X w args) ∧ sizedMet enc C.prog fn (OpenSpec.ofChange s) false w args) (s.post enc C.prog fn false true false false) := by
  refine returnsInHanded_of_calls own started noInit witness fun w tape i _ hsh _ hok hpre _ => ?_
  obtain ⟨_, _, _, fn', hfn', _, _, _, _, hval⟩ := hok
  obtain rfl : fn' = fn := Option.some.inj (hfn'.symm.trans hfn)
  obtain ⟨⟨⟨ds, gs, before, hw, _⟩, hx⟩, hz⟩ := hpre
  refine (contract (w.forCall tape i) w.heap.size i.args ds gs before hval (hw.of_heap (by rfl)) (hz.weights hw) (hX _ _ _ (by rfl) hx) hsh).mono fun e W' ⟨v, he, hp⟩ => ?_
  subst he
  exact ChangeSpec.post_blind hp
end
end Go.Proofs.YtjdcfaaoicnajaaDoor
