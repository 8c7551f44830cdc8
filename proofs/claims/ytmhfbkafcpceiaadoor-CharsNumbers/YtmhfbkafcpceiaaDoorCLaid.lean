/-
  From the row's listed variables to what the walks ask; the witness' world meets the condition.
-/
import Derived.Test.YtmhfbkafcpceiaaDoorRows
import Derived.Test.YtmhfbkafcpceiaaDoorCCode
import Derived.Lib.LaidTab
import Derived.Lib.LaidU8T
import Derived.LaidMore
import Derived.Lay
import Derived.ProofKit
import Derived.Stop.Joined
import Derived.Stop.LaidErr
namespace Go.Proofs.YtmhfbkafcpceiaaDoor
open Go.ChangeShapes Go.WideShapes Go.ChangeAt Go.RowKit Go.Lib

def laidL : List (String × DataW Unit) := [("unicode/utf8.acceptRanges", Rows.laid_unicode_utf8_acceptRanges), ("parchment/chars.spans", Rows.laid_parchment_chars_spans), ("unicode/utf8.first", Rows.laid_unicode_utf8_first)]

theorem acceptEq : (Rows.laid_unicode_utf8_acceptRanges : DataW Unit) = Lib.acceptData := by kernel_rfl
theorem firstEq : (Rows.laid_unicode_utf8_first : DataW Unit) = Lib.firstData := by kernel_rfl
def spanData (x : Int × Int × Nat) : DataW Unit := .agg [.lit (.int .i32 x.1), .lit (.int .i32 x.2.1), .lit (.int .u8 (x.2.2 : Int))]
theorem spansEq : (Rows.laid_parchment_chars_spans : DataW Unit) = .agg (tab.map spanData) := by kernel_rfl

theorem sp0 : Tryd.prog.globalNamed "parchment/chars.spans" = some 0 := by kernel_rfl
theorem sp1 : (Tryd.prog.globals[0]?).map (·.type) = some 50 := by kernel_rfl
theorem sp2 : Tryd.prog.cellsOf 49 = 3 := by kernel_rfl
theorem sp3 : Tryd.prog.cellsOf 21 = 1 := by kernel_rfl
theorem sp4 : Tryd.prog.cellsOf 5 = 1 := by kernel_rfl

theorem field_cell {H : Type} {enc : TypeId × Value → H} {P : Program} {w : World} {base : Nat} {sp : Nat → Bool} {held : Bool} {fuel : Nat} {t : TypeId} {fs : Array Field} {k : IntKind} {cs : List Value} {ds : List (DataW H)} {p : List MemPlace} (ht : P.underlying t = some (.struct fs))
    (h : DataW.trod enc P w base sp held fuel t cs = some (.agg ds, p)) (i : Nat) (f : Field) (hf : fs[i]? = some f) (hu : P.underlying f.type = some (.int k)) (hc : P.cellsOf f.type = 1) (z : Int) (hd : ds[i]? = some (.lit (.int k z))) : cs[f.offset]? = some (.int k z) := by
  obtain ⟨xs, n, rfl, hx, hl, hxl, hall⟩ := DataW.trod_struct ht h
  have hxs : xs.map (·.1) = ds := by
    have := congrArg Prod.fst hx
    simpa using this.symm
  have hi : i < fs.size := (Array.getElem?_eq_some_iff.1 hf).1
  have h1 := hall i f hf
  obtain ⟨b, hb⟩ : ∃ b, xs[i]? = some b := ⟨xs[i]'(by omega), List.getElem?_eq_getElem (by omega)⟩
  rw [hb, hc] at h1
  obtain ⟨y, hcz, hbe, _⟩ := DataW.trod_int hu h1
  have h2 : cs[f.offset]? = some (.int k y) := by
    have := congrArg (·[0]?) hcz
    simpa [List.getElem?_take, List.getElem?_drop] using this
  have h3 : (xs.map (·.1))[i]? = some b.1 := by simp [hb]
  rw [hxs, hd] at h3
  have h4 := Option.some.inj h3
  rw [hbe] at h4
  simp only [DataW.lit.injEq, Lit.int.injEq, true_and] at h4
  rw [h2, h4]

theorem of_spans {W : World} (h : VarReads Tryd.prog W "parchment/chars.spans" (.agg (tab.map spanData))) : Spans W := by
  obtain ⟨g, t, cs, fuel, p, hg, hty, hvar, hd⟩ := h
  obtain rfl := Option.some.inj (sp0.symm.trans hg)
  obtain rfl := Option.some.inj (sp1.symm.trans hty)
  intro j hj
  obtain ⟨fuel', d, q, hdi, he⟩ := array_elem Tryd.underlying50 hd j hj
  have hl : j < tab.length := by rw [tab_length]; exact hj
  have hdj : d = spanData (tab.getD j (0, 0, 0)) := by
    rw [List.getElem?_map, List.getElem?_eq_getElem hl] at hdi
    have e : tab.getD j (0, 0, 0) = tab[j] := by simp [List.getD, hl]
    rw [e]
    exact (Option.some.inj hdi).symm
  subst hdj
  rw [sp2] at he
  have f0 := field_cell Tryd.underlying49 he 0 _ rfl Tryd.underlying21 sp3 _ rfl
  have f1 := field_cell Tryd.underlying49 he 1 _ rfl Tryd.underlying21 sp3 _ rfl
  have f2 := field_cell Tryd.underlying49 he 2 _ rfl Tryd.underlying5 sp4 _ rfl
  have c : ∀ off, W.cell? ⟨0, off, none⟩ = cs.toList[off]? := fun off => by rw [World.var?_cell sp0 hvar off, Array.getElem?_toList]
  simp only [List.getElem?_take, List.getElem?_drop] at f0 f1 f2
  refine ⟨?_, ?_, ?_⟩
  · rw [c]; simpa using f0
  · rw [c]; simpa using f1
  · rw [c]; simpa using f2

theorem of_laid {W : World} (h : laidMetH Tryd.prog laidL W) : LaidC W := by
  rw [MakeChecks.laidMetH_plain _ _ _ (by kernel_rfl)] at h
  have h4 := Lib.laidMet.reads h (n := "unicode/utf8.acceptRanges") (d := Rows.laid_unicode_utf8_acceptRanges) (.head _)
  have h0 := Lib.laidMet.reads h (n := "parchment/chars.spans") (d := Rows.laid_parchment_chars_spans) (.tail _ (.head _))
  have h3 := Lib.laidMet.reads h (n := "unicode/utf8.first") (d := Rows.laid_unicode_utf8_first) (.tail _ (.tail _ (.head _)))
  rw [acceptEq] at h4
  rw [firstEq] at h3
  rw [spansEq] at h0
  exact ⟨of_spans h0, utf8Tabs_of_readsT (ρ := Tryd.laysValid_ren) (U8Types.of196 Tryd.laysValid) ⟨by kernel_rfl, by kernel_rfl, by kernel_rfl, by kernel_rfl, by kernel_rfl, by kernel_rfl, by kernel_rfl⟩ h3 h4⟩

theorem door_met (os : Os) (args : Array Value) : laidMetH Tryd.prog laidL ((World.laidAll Tryd.prog os laidL).forCall (fun _ _ => 0) ⟨#[], args, []⟩).memory := by
  rw [MakeChecks.laidMetH_plain _ _ _ (by kernel_rfl)]
  exact laidMet_laidAll _ (by kernel_rfl) (by kernel_rfl)

end Go.Proofs.YtmhfbkafcpceiaaDoor
