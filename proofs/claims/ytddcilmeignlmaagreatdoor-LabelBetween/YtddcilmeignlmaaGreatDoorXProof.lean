/-
  PROVED HERE: LabelBetween: between any two children of a label there is just the one that the document tells, or they are refused: for all bytes the call returns true, and the arguments read as they did (the library's variables start as the program's text lays them: the card ties them).
-/
import Derived.Test.YtddcilmeignlmaaGreatDoorRows
import Derived.Test.YtddcilmeignlmaaGreatDoorLCopy
import Derived.Deep.Slices
import Derived.ProofKit
import Derived.SizedLaws
import Derived.Lib.LaidTab
import Derived.LaidMore
import Derived.Lay
import Derived.Stop.Joined
import Derived.Stop.LaidErr
import Derived.Test.YtddcilmeignlmaaGreatDoorCards
import Derived.Test.YtddcilmeignlmaaGreatDoorTie
import Derived.Test.YtddcilmeignlmaaGreatDoorXBtw
import Derived.WalkKit
import Derived.OpenShut
import Derived.ChangeMaps5
import Derived.SevenTiedAt
namespace Go.Proofs.YtddcilmeignlmaaGreatDoor
open Go.RowKit Go.Deep Go.ChangeShapes Go.WideShapes Go.ChangeAt

theorem Tryz.cells5 : Tryz.prog.cellsOf 5 = 1 := by kernel_rfl
theorem u8_bounds {x : Int} (h : (Lit.int .u8 x).wf = true) : 0 ≤ x ∧ x < 256 := by
  simp [Lit.wf, show IntKind.u8.min = 0 from rfl, show IntKind.u8.max = 255 from rfl] at h
  omega

set_option maxRecDepth 100000 in
theorem plain_of {W : World} {base : Nat} {a : Option Addr} {len cap : Nat} (h : Value.okWide Tryz.prog W .any base 22 (.slice a len cap)) : Plain a := by
  cases a with
  | none => exact Or.inl rfl
  | some x =>
    unfold Value.okWide at h
    rw [Tryz.underlying22] at h
    simp only [Cell.okWide, Tryz.underlying22, Cell.ok, World.has] at h
    obtain ⟨b, off, spot⟩ := x
    have hs : spot = none := h.2.2.2.1
    subst hs
    exact Or.inr ⟨b, off, rfl⟩

section
variable {H : Type} {enc : TypeId × Value → H} {w : World} {base : Nat} {spare : Nat → Bool} {held : Bool}

set_option maxRecDepth 100000 in
theorem bytes_open {fuel : Nat} {cs : List Value} {x : DataW H × List MemPlace} (h : DataW.trod enc Tryz.prog w base spare held fuel 22 cs = some x) :
    ∃ ad len cap L, cs = [.slice ad len cap] ∧ L.length = len ∧ len ≤ cap ∧ cap ≤ maxLen ∧ BytesAt w ad L ∧ (ad = none → cap = 0) := by
  rcases open_slice Tryz.underlying22 h with ⟨hcs, _⟩ | ⟨a, len, cap, m, n, D, Pl, rfl, _, hl, hm, hmm, _, hx⟩
  · exact ⟨none, 0, 0, [], hcs, rfl, Nat.le_refl _, by unfold maxLen; omega, BytesAt.nil _ _, fun _ => rfl⟩
  · have hlm : len ≤ m := by rw [hmm]; split <;> omega
    rw [Tryz.cells5] at hx
    have hel : ∀ i, i < m → ∃ v : Int, w.cell? (a.add i) = some (.int .u8 v) ∧ (Lit.int .u8 v).wf = true := by
      intro i hi
      obtain ⟨cs', h1, h2⟩ := hx i hi
      obtain ⟨_, hlen, hc⟩ := World.cells?_some h1
      match cs', hlen with
      | [c0], _ =>
        obtain ⟨v0, e0, _, w0⟩ := DataW.trod_int Tryz.underlying5 h2
        simp at e0
        subst e0
        have q0 := hc 0 (by omega)
        refine ⟨v0, ?_, w0⟩
        simpa [Addr.add] using q0
    obtain ⟨f, hf⟩ := choose_lt (α := Int) hel
    refine ⟨some a, len, cap, (List.range len).map fun i => UInt8.ofNat (f i).toNat, rfl, by simp, hl, hm, ?_, fun h => nomatch h⟩
    intro i g hg
    have hi : i < len := by
      have := (List.getElem?_eq_some_iff.1 hg).1
      simpa [arr] using this
    have h0 := (hf 0 (by omega)).1
    obtain ⟨b, off, spot⟩ := a
    have hspot : spot = none := by simpa [Addr.add] using World.cell?_spot h0
    subst hspot
    obtain ⟨c0, w0⟩ := hf i (by omega)
    obtain ⟨w1, w2⟩ := u8_bounds w0
    refine ⟨b, off, rfl, ?_⟩
    rw [Addr.add_mid] at c0
    rw [c0, ← hg]
    have e : ((UInt8.ofNat (f i).toNat).toNat : Int) = f i := by rw [UInt8.toNat_ofNat']; omega
    simp only [arr, List.map_map, List.getElem?_map, List.getElem?_range hi, Option.map_some, Function.comp, e]

end

/-! ### the library's variables -/
def laidL : List (String × DataW Unit) := [("math/bits.deBruijn32tab", Rows.laid_math_bits_deBruijn32tab), ("math/bits.deBruijn64tab", Rows.laid_math_bits_deBruijn64tab), ("internal/strconv.uint64pow10", Rows.laid_internal_strconv_uint64pow10), ("unicode/utf8.acceptRanges", Rows.laid_unicode_utf8_acceptRanges), ("unicode/utf8.first", Rows.laid_unicode_utf8_first)]
def tab64 : List Int := [0, 1, 56, 2, 57, 49, 28, 3, 61, 58, 42, 50, 38, 29, 17, 4, 62, 47, 59, 36, 45, 43, 51, 22, 53, 39, 33, 30, 24, 18, 12, 5, 63, 55, 48, 27, 60, 41, 37, 16, 46, 35, 44, 21, 52, 32, 23, 11, 54, 26, 40, 15, 34, 20, 31, 10, 25, 14, 19, 9, 13, 8, 7, 6]
theorem tabEq : (Rows.laid_math_bits_deBruijn64tab : DataW Unit) = Lib.tabData .u8 tab64 := by kernel_rfl
theorem lp0 : Tryz.prog.globalNamed "math/bits.deBruijn64tab" = some 3 := by kernel_rfl
theorem lp1 : (Tryz.prog.globals[3]?).map (·.type) = some 251 := by kernel_rfl
theorem lp3 : Tryz.prog.cellsOf 251 = 64 := by kernel_rfl

theorem of_laid {W : World} (h : laidMetH Tryz.prog laidL W) : Laid W := by
  rw [MakeChecks.laidMetH_plain _ _ _ (by kernel_rfl)] at h
  have h2 := h.tail
  rw [tabEq] at h2
  have ht := Lib.tabIs_of_head lp0 lp1 Tryz.underlying251 Tryz.underlying5 Tryz.cells5 lp3 h2
  have := ht.cell lp0 1 (by decide)
  exact this

theorem door_met (os : Os) (args : Array Value) : laidMetH Tryz.prog laidL ((World.laidAll Tryz.prog os laidL).forCall (fun _ _ => 0) ⟨#[], args, []⟩).memory := by
  rw [MakeChecks.laidMetH_plain _ _ _ (by kernel_rfl)]
  exact laidMet_laidAll _ (by kernel_rfl) (by kernel_rfl)

end Go.Proofs.YtddcilmeignlmaaGreatDoor

namespace Go.Proofs.YtddcilmeignlmaaGreatDoor
open Go.RowKit Go.Deep Go.ChangeShapes Go.WideShapes Go.ChangeAt

theorem Tryz.bytes5 : Tryz.prog.bytesOf 5 = 1 := by kernel_rfl

variable {H : Type} {enc : TypeId × Value → H} {w : World} {base : Nat} {spare : Nat → Bool} {held : Bool}

set_option maxRecDepth 100000 in
theorem bytes_open2 {fuel : Nat} {cs : List Value} {x : DataW H × List MemPlace} (h : DataW.trod enc Tryz.prog w base spare held fuel 22 cs = some x) :
    ∃ ad len cap L, cs = [.slice ad len cap] ∧ L.length = len ∧ len ≤ cap ∧ cap ≤ maxLen ∧ BytesAt w ad L ∧ (ad = none → cap = 0) ∧ (len = 0 ∨ ∃ elems sp, x.1 = .slice elems sp ∧ elems.length = len) := by
  rcases open_slice Tryz.underlying22 h with ⟨hcs, _⟩ | ⟨a, len, cap, m, n, D, Pl, rfl, _, hl, hm, hmm, hxe, hx⟩
  · exact ⟨none, 0, 0, [], hcs, rfl, Nat.le_refl _, by unfold maxLen; omega, BytesAt.nil _ _, fun _ => rfl, Or.inl rfl⟩
  · have hlm : len ≤ m := by rw [hmm]; split <;> omega
    rw [Tryz.cells5] at hx
    have hel : ∀ i, i < m → ∃ v : Int, w.cell? (a.add i) = some (.int .u8 v) ∧ (Lit.int .u8 v).wf = true := by
      intro i hi
      obtain ⟨cs', h1, h2⟩ := hx i hi
      obtain ⟨_, hlen, hc⟩ := World.cells?_some h1
      match cs', hlen with
      | [c0], _ =>
        obtain ⟨v0, e0, _, w0⟩ := DataW.trod_int Tryz.underlying5 h2
        simp at e0
        subst e0
        have q0 := hc 0 (by omega)
        refine ⟨v0, ?_, w0⟩
        simpa [Addr.add] using q0
    obtain ⟨f, hf⟩ := choose_lt (α := Int) hel
    refine ⟨some a, len, cap, (List.range len).map fun i => UInt8.ofNat (f i).toNat, rfl, by simp, hl, hm, ?_, (fun h => nomatch h), Or.inr ⟨_, _, by rw [hxe], by simp⟩⟩
    intro i g hg
    have hi : i < len := by
      have := (List.getElem?_eq_some_iff.1 hg).1
      simpa [arr] using this
    have h0 := (hf 0 (by omega)).1
    obtain ⟨b, off, spot⟩ := a
    have hspot : spot = none := by simpa [Addr.add] using World.cell?_spot h0
    subst hspot
    obtain ⟨c0, w0⟩ := hf i (by omega)
    obtain ⟨w1, w2⟩ := u8_bounds w0
    refine ⟨b, off, rfl, ?_⟩
    rw [Addr.add_mid] at c0
    rw [c0, ← hg]
    have e : ((UInt8.ofNat (f i).toNat).toNat : Int) = f i := by rw [UInt8.toNat_ofNat']; omega
    simp only [arr, List.map_map, List.getElem?_map, List.getElem?_range hi, Option.map_some, Function.comp, e]

end Go.Proofs.YtddcilmeignlmaaGreatDoor

namespace Go.Proofs.YtddcilmeignlmaaGreatDoor.labelBetween
open Go.ChangeShapes Go.WideShapes Go.ChangeAt Go.RowKit
set_option linter.unusedVariables false

theorem own : ownKnob Tryz.prog.godebug = none := by kernel_rfl
theorem laidOut : laidOutB Tryz.prog = true := by kernel_rfl

theorem walk (W : World) (L : Laid W) (ad0 : Option Addr) (n0 c0 : Nat) (l0 : List UInt8) (hl0 : l0.length = n0) (hb0 : BytesAt W ad0 l0) (hc0 : ad0 = none → c0 = 0) (hz0 : n0 < 140737488355328) (ad1 : Option Addr) (n1 c1 : Nat) (l1 : List UInt8) (hl1 : l1.length = n1) (hb1 : BytesAt W ad1 l1) (hc1 : ad1 = none → c1 = 0) (hz1 : n1 < 140737488355328) (ad2 : Option Addr) (n2 c2 : Nat) (l2 : List UInt8) (hl2 : l2.length = n2) (hb2 : BytesAt W ad2 l2) (hc2 : ad2 = none → c2 = 0) (hz2 : n2 < 140737488355328) :
    Calls Tryz.prog 4 #[.slice ad0 n0 c0, .slice ad1 n1 c1, .slice ad2 n2 c2] W fun e w' => e = .returned (.bool true) ∧ Fr [] W w' := by
  by_cases h1 : n0 + n1 + n2 ≤ 1000
  · exact between_law W L ad0 ad1 ad2 n0 c0 n1 c1 n2 c2 l0 l1 l2 hl0 hl1 hl2 hb0 hb1 hb2 hc0 hc1 hc2 h1
  · exact between_long W L ad0 ad1 ad2 n0 c0 n1 c1 n2 c2 (by omega) hz0 hz1 hz2

set_option maxRecDepth 100000 in
theorem lifted (os : Os) (started : os.Started) (H : Type) (enc : TypeId × Value → H) :
    ReturnsInHanded {} Tryz.checked os 4 .any (fun w args => (Rows.labelBetweenSpec.pre enc Tryz.prog Tryz.f4 [] false w args ∧ laidMetH Tryz.prog laidL w) ∧ sizedMet enc Tryz.prog Tryz.f4 (OpenSpec.ofChange Rows.labelBetweenSpec) false w args)
      (Rows.labelBetweenSpec.post enc Tryz.prog Tryz.f4 false true false false) := by
  refine returnsInHanded_of_change_and (C := Tryz.checked) (X := fun w _ => laidMetH Tryz.prog laidL w) (fun _ _ _ hh h => h.of_heap hh) own started (by kernel_rfl) Tryz.func4
    (ChangeSpec.witness_shaped (enc := enc) (C := Tryz.checked) (os := os) (X := fun w _ => laidMetH Tryz.prog laidL w) false (World.laidAll Tryz.prog os laidL) #[.slice none 0 0, .slice none 0 0, .slice none 0 0] 8 (World.laidAll_os _ _ _) (World.shaped_of_ZipB (by kernel_rfl) (by kernel_rfl)) (by kernel_rfl) (by kernel_rfl) (by kernel_rfl) (door_met os _)) ?_
  intro W base args ds gs before hval0 hW hcnd hz0 hL _
  have hval : ∀ (j : Nat) t v, Tryz.f4.params[j]? = some t → args[j]? = some v → Value.okWide Tryz.prog W .any base t v := hval0
  have hW' := hW
  obtain ⟨p, q, hA0, hV, rfl, hfz, hnd⟩ := hW
  have hA : DataW.TrodAll enc Tryz.prog W 0 (fun _ => true) true Tryz.f4.params.toList args.toList ds p := hA0
  have hz1 : (DataW.weightsEach Tryz.prog (Tryz.f4.params.toList ++ Rows.labelBetweenSpec.plain.varTypes Tryz.prog) (ds ++ gs)).all (· ≤ reachBytes) = true := hz0
  rw [Tryz.params4] at hA hval hz1
  obtain ⟨v0, vs0, d0, ds0, p0, q0, hargs, rfl, rfl, h0, r0⟩ := trodAll_cons hA
  obtain ⟨v1, vs1, d1, ds1, p1, q1, rfl, rfl, rfl, h1, r1⟩ := trodAll_cons r0
  obtain ⟨v2, vs2, d2, ds2, p2, q2, rfl, rfl, rfl, h2, r2⟩ := trodAll_cons r1
  obtain ⟨rfl, rfl, rfl⟩ := trodAll_nil r2
  obtain rfl : args = #[v0, v1, v2] := by cases args; simp_all
  obtain ⟨rfl, rfl⟩ := trodVars_none hV
  obtain ⟨a0, len0, cap0, rfl⟩ := okWide_slice Tryz.underlying22 (hval 0 22 v0 rfl rfl)
  have k0 := h0
  have lt0 : ∀ x ∈ p0, x.block < W.heap.size := by obtain ⟨m, hm⟩ := k0; exact DataW.trod_lt m _ _ _ hm
  obtain ⟨L0, hL0, hB0, hc0, hz0'⟩ : ∃ L : List UInt8, L.length = len0 ∧ BytesAt W a0 L ∧ (a0 = none → cap0 = 0) ∧ len0 < 140737488355328 := by
    obtain ⟨fuel, hf⟩ := h0
    obtain ⟨ad, len, cap, L, hcs, hl, hc, hm, hb, hcz, hx⟩ := bytes_open2 hf
    simp [Value.cells] at hcs
    obtain ⟨rfl, rfl, rfl⟩ := hcs
    refine ⟨L, hl, hb, hcz, ?_⟩
    rcases hx with h0 | ⟨elems, sp, he, hlen⟩
    · omega
    · have he' : d0 = .slice elems sp := he
      have h5 := sized_slice hz1 (j := 0) (t := 22) (e := 5) (elems := elems) (spare := sp) rfl (by rw [he']; rfl) Tryz.underlying22
      have h6 := reachBytes_lt
      rw [Tryz.bytes5] at h5
      omega
  obtain ⟨a1, len1, cap1, rfl⟩ := okWide_slice Tryz.underlying22 (hval 1 22 v1 rfl rfl)
  have k1 := h1
  have lt1 : ∀ x ∈ p1, x.block < W.heap.size := by obtain ⟨m, hm⟩ := k1; exact DataW.trod_lt m _ _ _ hm
  obtain ⟨L1, hL1, hB1, hc1, hz1'⟩ : ∃ L : List UInt8, L.length = len1 ∧ BytesAt W a1 L ∧ (a1 = none → cap1 = 0) ∧ len1 < 140737488355328 := by
    obtain ⟨fuel, hf⟩ := h1
    obtain ⟨ad, len, cap, L, hcs, hl, hc, hm, hb, hcz, hx⟩ := bytes_open2 hf
    simp [Value.cells] at hcs
    obtain ⟨rfl, rfl, rfl⟩ := hcs
    refine ⟨L, hl, hb, hcz, ?_⟩
    rcases hx with h0 | ⟨elems, sp, he, hlen⟩
    · omega
    · have he' : d1 = .slice elems sp := he
      have h5 := sized_slice hz1 (j := 1) (t := 22) (e := 5) (elems := elems) (spare := sp) rfl (by rw [he']; rfl) Tryz.underlying22
      have h6 := reachBytes_lt
      rw [Tryz.bytes5] at h5
      omega
  obtain ⟨a2, len2, cap2, rfl⟩ := okWide_slice Tryz.underlying22 (hval 2 22 v2 rfl rfl)
  have k2 := h2
  have lt2 : ∀ x ∈ p2, x.block < W.heap.size := by obtain ⟨m, hm⟩ := k2; exact DataW.trod_lt m _ _ _ hm
  obtain ⟨L2, hL2, hB2, hc2, hz2'⟩ : ∃ L : List UInt8, L.length = len2 ∧ BytesAt W a2 L ∧ (a2 = none → cap2 = 0) ∧ len2 < 140737488355328 := by
    obtain ⟨fuel, hf⟩ := h2
    obtain ⟨ad, len, cap, L, hcs, hl, hc, hm, hb, hcz, hx⟩ := bytes_open2 hf
    simp [Value.cells] at hcs
    obtain ⟨rfl, rfl, rfl⟩ := hcs
    refine ⟨L, hl, hb, hcz, ?_⟩
    rcases hx with h0 | ⟨elems, sp, he, hlen⟩
    · omega
    · have he' : d2 = .slice elems sp := he
      have h5 := sized_slice hz1 (j := 2) (t := 22) (e := 5) (elems := elems) (spare := sp) rfl (by rw [he']; rfl) Tryz.underlying22
      have h6 := reachBytes_lt
      rw [Tryz.bytes5] at h5
      omega
  have LW := of_laid hL
  clear hA0 hval0 hz0
  refine (walk W LW a0 len0 cap0 L0 hL0 hB0 hc0 hz0' a1 len1 cap1 L1 hL1 hB1 hc1 hz1' a2 len2 cap2 L2 hL2 hB2 hc2 hz2').mono fun e W' ⟨he, fr⟩ => ?_
  have bel : Below W.heap.size W W' := fr.below (Nat.le_refl _) (fun _ h => nomatch h)
  subst he
  exact ⟨_, rfl, _, _, _, [], _, [], hW', trodAll_mk1 (shut_bool Tryz.underlying4 _), (trodAll_cons_mk (Below.trod laidOut (by kernel_rfl) (of_decide_eq_true (by kernel_rfl)) k0 bel lt0) (trodAll_cons_mk (Below.trod laidOut (by kernel_rfl) (of_decide_eq_true (by kernel_rfl)) k1 bel lt1) (trodAll_cons_mk (Below.trod laidOut (by kernel_rfl) (of_decide_eq_true (by kernel_rfl)) k2 bel lt2) trodAll_mk0))), rfl, bel.frame _, fun h => by cases h⟩

theorem over : Rows.labelBetweenRow.holds Tryz.pinned (OpenSpec.ofChange Rows.labelBetweenSpec) :=
  OpenClaim.holds_of_wide 4 Tryz.f4 rfl rfl rfl rfl rfl rfl rfl ⟨rfl, rfl, rfl, rfl, rfl⟩ rfl rfl rfl rfl rfl (by kernel_rfl) Tryz.func4 (by kernel_rfl)
    (of_decide_eq_true (by kernel_rfl)) (by unfold Func.isWrapper; first | (rw [if_pos (by decide +kernel)]; kernel_rfl) | (rw [if_neg (by decide +kernel)]; exact ⟨rfl, rfl⟩))
    (fun os started H enc _ => lifted os started H enc)

theorem proved : Rows.LabelBetweenCardSaid :=
  Claim7.holds_tied_plain_at .later [] [.data, .data, .data, .data, .pinned] true (true, "252c90333295294d93d6cee4ab3c78b9822c9320d365ef85497370fdfb775954") false
    over (fun _ h => by cases h) (by kernel_rfl) (fun _ h => by cases h) labelBetween_row_tie rfl ⟨rfl, rfl⟩ (by kernel_rfl) rfl
    (fun f fn hf hfn => by
      obtain rfl : f = 4 := Option.some.inj ((show Tryz.prog.funcNamed "parchment/parchmentlaw03.LabelBetween" = some 4 by kernel_rfl).symm.trans hf) |>.symm
      obtain rfl : fn = Tryz.f4 := (Option.some.inj (Tryz.func4.symm.trans hfn)).symm
      exact ⟨by kernel_rfl, fun j t ht => by
        rw [Tryz.params4] at ht
        have hm : t ∈ ([22, 22, 22] : List TypeId) := by simpa using Array.mem_of_getElem? ht
        have hall : (([22, 22, 22] : List TypeId).all fun u => !Tryz.prog.wantsStandIn u) = true := by kernel_rfl
        exact (show Tryz.prog.wantsStandIn t = false by simpa using List.all_eq_true.1 hall t hm)⟩)
    (by kernel_rfl)
end Go.Proofs.YtddcilmeignlmaaGreatDoor.labelBetween

namespace Go.Proofs.YtddcilmeignlmaaGreatDoor
theorem labelBetween_holds : Rows.LabelBetweenCardSaid := labelBetween.proved
end Go.Proofs.YtddcilmeignlmaaGreatDoor
#print axioms Go.Proofs.YtddcilmeignlmaaGreatDoor.labelBetween_holds

