/-
  Arguments that came in, opened; the library's variables.
-/
import Derived.Test.YtddcilmeignlmaaDoorRows
import Derived.Test.YtddcilmeignlmaaDoorLCopy
import Derived.Deep.Slices
import Derived.ProofKit
import Derived.SizedLaws
import Derived.Lib.LaidTab
import Derived.LaidMore
import Derived.Lay
import Derived.Stop.Joined
import Derived.Stop.LaidErr
namespace Go.Proofs.YtddcilmeignlmaaDoor
open Go.RowKit Go.Deep Go.ChangeShapes Go.WideShapes Go.ChangeAt

/-- The plan: numbers in memory. -/
def IntsAt (w : World) (ad : Option Addr) (P : List Int) : Prop := ∀ (j : Nat) (x : Int), P[j]? = some x → ∃ b off, ad = some ⟨b, off, none⟩ ∧ w.cell? ⟨b, off + j, none⟩ = some (.int .i64 x)

theorem Tryd.cells3 : Tryd.prog.cellsOf 3 = 1 := by kernel_rfl
theorem Tryd.cells5 : Tryd.prog.cellsOf 5 = 1 := by kernel_rfl
theorem u8_bounds {x : Int} (h : (Lit.int .u8 x).wf = true) : 0 ≤ x ∧ x < 256 := by
  simp [Lit.wf, show IntKind.u8.min = 0 from rfl, show IntKind.u8.max = 255 from rfl] at h
  omega

set_option maxRecDepth 100000 in
theorem plain_of {W : World} {base : Nat} {a : Option Addr} {len cap : Nat} (h : Value.okWide Tryd.prog W .any base 22 (.slice a len cap)) : Plain a := by
  cases a with
  | none => exact Or.inl rfl
  | some x =>
    unfold Value.okWide at h
    rw [Tryd.underlying22] at h
    simp only [Cell.okWide, Tryd.underlying22, Cell.ok, World.has] at h
    obtain ⟨b, off, spot⟩ := x
    have hs : spot = none := h.2.2.2.1
    subst hs
    exact Or.inr ⟨b, off, rfl⟩

section
variable {H : Type} {enc : TypeId × Value → H} {w : World} {base : Nat} {spare : Nat → Bool} {held : Bool}

set_option maxRecDepth 100000 in
theorem bytes_open {fuel : Nat} {cs : List Value} {x : DataW H × List MemPlace} (h : DataW.trod enc Tryd.prog w base spare held fuel 22 cs = some x) :
    ∃ ad len cap L, cs = [.slice ad len cap] ∧ L.length = len ∧ len ≤ cap ∧ cap ≤ maxLen ∧ BytesAt w ad L ∧ (ad = none → cap = 0) := by
  rcases open_slice Tryd.underlying22 h with ⟨hcs, _⟩ | ⟨a, len, cap, m, n, D, Pl, rfl, _, hl, hm, hmm, _, hx⟩
  · exact ⟨none, 0, 0, [], hcs, rfl, Nat.le_refl _, by unfold maxLen; omega, BytesAt.nil _ _, fun _ => rfl⟩
  · have hlm : len ≤ m := by rw [hmm]; split <;> omega
    rw [Tryd.cells5] at hx
    have hel : ∀ i, i < m → ∃ v : Int, w.cell? (a.add i) = some (.int .u8 v) ∧ (Lit.int .u8 v).wf = true := by
      intro i hi
      obtain ⟨cs', h1, h2⟩ := hx i hi
      obtain ⟨_, hlen, hc⟩ := World.cells?_some h1
      match cs', hlen with
      | [c0], _ =>
        obtain ⟨v0, e0, _, w0⟩ := DataW.trod_int Tryd.underlying5 h2
        simp at e0
        subst e0
        have q0 := hc 0 (by omega)
        refine ⟨v0, ?_, w0⟩
        simpa [Addr.add] using q0
    obtain ⟨f, hf⟩ := choose_lt (α := Int) hel
    refine ⟨some a, len, cap, (List.range len).map fun i => UInt8.ofNat (f i).toNat, rfl, by simp, hl, hm, ?_, fun h => nomatch h⟩
    intro i g hg
    have hi : i < len := by
      have := (List.getElem?_eq_some_iff.1 hg).1
      simpa [arr] using this
    have h0 := (hf 0 (by omega)).1
    obtain ⟨b, off, spot⟩ := a
    have hspot : spot = none := by simpa [Addr.add] using World.cell?_spot h0
    subst hspot
    obtain ⟨c0, w0⟩ := hf i (by omega)
    obtain ⟨w1, w2⟩ := u8_bounds w0
    refine ⟨b, off, rfl, ?_⟩
    rw [Addr.add_mid] at c0
    rw [c0, ← hg]
    have e : ((UInt8.ofNat (f i).toNat).toNat : Int) = f i := by rw [UInt8.toNat_ofNat']; omega
    simp only [arr, List.map_map, List.getElem?_map, List.getElem?_range hi, Option.map_some, Function.comp, e]

set_option maxRecDepth 100000 in
theorem ints_open {fuel : Nat} {cs : List Value} {x : DataW H × List MemPlace} (h : DataW.trod enc Tryd.prog w base spare held fuel 32 cs = some x) :
    ∃ ad len cap L, cs = [.slice ad len cap] ∧ L.length = len ∧ len ≤ cap ∧ cap ≤ maxLen ∧ IntsAt w ad L ∧ ∀ x ∈ L, (Lit.int .i64 x).wf = true := by
  rcases open_slice Tryd.underlying32 h with ⟨hcs, _⟩ | ⟨a, len, cap, m, n, D, Pl, rfl, _, hl, hm, hmm, _, hx⟩
  · exact ⟨none, 0, 0, [], hcs, rfl, Nat.le_refl _, by unfold maxLen; omega, (fun j x hx => by rw [List.getElem?_nil] at hx; cases hx), (fun x hx => by cases hx)⟩
  · have hlm : len ≤ m := by rw [hmm]; split <;> omega
    rw [Tryd.cells3] at hx
    have hel : ∀ i, i < m → ∃ v : Int, w.cell? (a.add i) = some (.int .i64 v) ∧ (Lit.int .i64 v).wf = true := by
      intro i hi
      obtain ⟨cs', h1, h2⟩ := hx i hi
      obtain ⟨_, hlen, hc⟩ := World.cells?_some h1
      match cs', hlen with
      | [c0], _ =>
        obtain ⟨v0, e0, _, w0⟩ := DataW.trod_int Tryd.underlying3 h2
        simp at e0
        subst e0
        have q0 := hc 0 (by omega)
        refine ⟨v0, ?_, w0⟩
        simpa [Addr.add] using q0
    obtain ⟨f, hf⟩ := choose_lt (α := Int) hel
    refine ⟨some a, len, cap, (List.range len).map f, rfl, by simp, hl, hm, ?_, ?_⟩
    · intro i g hg
      have hi : i < len := by
        have := (List.getElem?_eq_some_iff.1 hg).1
        simpa using this
      have h0 := (hf 0 (by omega)).1
      obtain ⟨b, off, spot⟩ := a
      have hspot : spot = none := by simpa [Addr.add] using World.cell?_spot h0
      subst hspot
      obtain ⟨c0, w0⟩ := hf i (by omega)
      refine ⟨b, off, rfl, ?_⟩
      rw [Addr.add_mid] at c0
      rw [c0]
      simp [List.getElem?_range hi] at hg
      rw [hg]
    · intro x hx
      obtain ⟨i, hi, rfl⟩ := List.mem_map.1 hx
      exact (hf i (by have := List.mem_range.1 hi; omega)).2
end

/-! ### the library's variables -/
def laidL : List (String × DataW Unit) := [("math/bits.deBruijn32tab", Rows.laid_math_bits_deBruijn32tab), ("math/bits.deBruijn64tab", Rows.laid_math_bits_deBruijn64tab), ("internal/strconv.uint64pow10", Rows.laid_internal_strconv_uint64pow10), ("unicode/utf8.acceptRanges", Rows.laid_unicode_utf8_acceptRanges), ("unicode/utf8.first", Rows.laid_unicode_utf8_first)]
def tab64 : List Int := [0, 1, 56, 2, 57, 49, 28, 3, 61, 58, 42, 50, 38, 29, 17, 4, 62, 47, 59, 36, 45, 43, 51, 22, 53, 39, 33, 30, 24, 18, 12, 5, 63, 55, 48, 27, 60, 41, 37, 16, 46, 35, 44, 21, 52, 32, 23, 11, 54, 26, 40, 15, 34, 20, 31, 10, 25, 14, 19, 9, 13, 8, 7, 6]
theorem tabEq : (Rows.laid_math_bits_deBruijn64tab : DataW Unit) = Lib.tabData .u8 tab64 := by kernel_rfl
theorem lp0 : Tryd.prog.globalNamed "math/bits.deBruijn64tab" = some 3 := by kernel_rfl
theorem lp1 : (Tryd.prog.globals[3]?).map (·.type) = some 138 := by kernel_rfl
theorem lp3 : Tryd.prog.cellsOf 138 = 64 := by kernel_rfl

theorem of_laid {W : World} (h : laidMetH Tryd.prog laidL W) : Laid W := by
  rw [MakeChecks.laidMetH_plain _ _ _ (by kernel_rfl)] at h
  have h2 := h.tail
  rw [tabEq] at h2
  have ht := Lib.tabIs_of_head lp0 lp1 Tryd.underlying138 Tryd.underlying5 Tryd.cells5 lp3 h2
  have := ht.cell lp0 1 (by decide)
  exact this

theorem door_met (os : Os) (args : Array Value) : laidMetH Tryd.prog laidL ((World.laidAll Tryd.prog os laidL).forCall (fun _ _ => 0) ⟨#[], args, []⟩).memory := by
  rw [MakeChecks.laidMetH_plain _ _ _ (by kernel_rfl)]
  exact laidMet_laidAll _ (by kernel_rfl) (by kernel_rfl)

end Go.Proofs.YtddcilmeignlmaaDoor
