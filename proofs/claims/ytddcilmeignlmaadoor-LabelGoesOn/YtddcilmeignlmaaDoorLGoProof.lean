/-
  PROVED HERE: LabelGoesOn, the stage's theorem: however often another label is put between two neighbours, all are children of one parent, rise, and stand below the parent's end, and only bits end it: for all bytes and all plans the call returns true, and the arguments read as they did (the library's variables start as the program's text lays them: the card ties them).
-/
import Derived.Test.YtddcilmeignlmaaDoorRows
import Derived.Test.YtddcilmeignlmaaDoorCards
import Derived.Test.YtddcilmeignlmaaDoorTie
import Derived.Test.YtddcilmeignlmaaDoorLGo
import Derived.Test.YtddcilmeignlmaaDoorLGoL
import Derived.Test.YtddcilmeignlmaaDoorLOpen
import Derived.WalkKit
import Derived.ProofKit
import Derived.OpenShut
import Derived.SizedLaws
import Derived.ChangeMaps5
import Derived.SevenTiedAt
namespace Go.Proofs.YtddcilmeignlmaaDoor.labelGoesOn
open Go.ChangeShapes Go.WideShapes Go.ChangeAt Go.RowKit
set_option linter.unusedVariables false

theorem own : ownKnob Tryd.prog.godebug = none := by kernel_rfl
theorem laidOut : laidOutB Tryd.prog = true := by kernel_rfl

theorem walk (W : World) (L : Laid W) (ad : Option Addr) (n c : Nat) (l : List UInt8) (hl : l.length = n) (hb : BytesAt W ad l) (hp : Plain ad) (hc : ad = none → c = 0) (pa : Option Addr) (pn pc : Nat) (P : List Int) (hpl : P.length = pn) (hP : IntsAt W pa P) (hwf : ∀ x ∈ P, (Lit.int .i64 x).wf = true) :
    Calls Tryd.prog 4 #[.slice ad n c, .slice pa pn pc] W fun e w' => e = .returned (.bool true) ∧ Fr [] W w' := by
  by_cases h1 : n ≤ 200
  · by_cases h2 : pn ≤ 300
    · by_cases h3 : ∃ ss, Lab l ss
      · obtain ⟨ss, h3⟩ := h3
        exact goesOn_law W L ad n c l ss h3 hl hb hp hc h1 pa pn pc P hpl h2 hP hwf
      · exact goesOn_no W L ad pa n c pn pc l (fun ss h => h3 ⟨ss, h⟩) hl hb hp h1 h2
    · exact goesOn_long2 W L ad pa n c pn pc h1 (by omega)
  · exact goesOn_long1 W L ad pa n c pn pc (by omega)

set_option maxRecDepth 100000 in
theorem lifted (os : Os) (started : os.Started) (H : Type) (enc : TypeId × Value → H) :
    ReturnsInHanded {} Tryd.checked os 4 .any (fun w args => (Rows.labelGoesOnSpec.pre enc Tryd.prog Tryd.f4 [] false w args ∧ laidMetH Tryd.prog laidL w) ∧ sizedMet enc Tryd.prog Tryd.f4 (OpenSpec.ofChange Rows.labelGoesOnSpec) false w args)
      (Rows.labelGoesOnSpec.post enc Tryd.prog Tryd.f4 false true false false) := by
  refine returnsInHanded_of_change_and (C := Tryd.checked) (X := fun w _ => laidMetH Tryd.prog laidL w) (fun _ _ _ hh h => h.of_heap hh) own started (by kernel_rfl) Tryd.func4
    (ChangeSpec.witness_shaped (enc := enc) (C := Tryd.checked) (os := os) (X := fun w _ => laidMetH Tryd.prog laidL w) false (World.laidAll Tryd.prog os laidL) #[.slice none 0 0, .slice none 0 0] 8 (World.laidAll_os _ _ _) (World.shaped_of_ZipB (by kernel_rfl) (by kernel_rfl)) (by kernel_rfl) (by kernel_rfl) (by kernel_rfl) (door_met os _)) ?_
  intro W base args ds gs before hval0 hW hcnd hz0 hL _
  have hval : ∀ (j : Nat) t v, Tryd.f4.params[j]? = some t → args[j]? = some v → Value.okWide Tryd.prog W .any base t v := hval0
  have hW' := hW
  obtain ⟨p, q, hA0, hV, rfl, hfz, hnd⟩ := hW
  have hA : DataW.TrodAll enc Tryd.prog W 0 (fun _ => true) true Tryd.f4.params.toList args.toList ds p := hA0
  rw [Tryd.params4] at hA hval
  obtain ⟨v0, vs0, d0, ds0, p0, q0, hargs, rfl, rfl, h0, r0⟩ := trodAll_cons hA
  obtain ⟨v1, vs1, d1, ds1, p1, q1, rfl, rfl, rfl, h1, r1⟩ := trodAll_cons r0
  obtain ⟨rfl, rfl, rfl⟩ := trodAll_nil r1
  obtain rfl : args = #[v0, v1] := by cases args; simp_all
  obtain ⟨rfl, rfl⟩ := trodVars_none hV
  obtain ⟨a0, len0, cap0, rfl⟩ := okWide_slice Tryd.underlying22 (hval 0 22 v0 rfl rfl)
  have pl0 : Plain a0 := plain_of (hval 0 22 _ rfl rfl)
  have k0 := h0
  have lt0 : ∀ x ∈ p0, x.block < W.heap.size := by obtain ⟨m, hm⟩ := k0; exact DataW.trod_lt m _ _ _ hm
  obtain ⟨L0, hL0, hB0, hc0⟩ : ∃ L : List UInt8, L.length = len0 ∧ BytesAt W a0 L ∧ (a0 = none → cap0 = 0) := by
    obtain ⟨fuel, hf⟩ := h0
    obtain ⟨ad, len, cap, L, hcs, hl, hc, hm, hb, hcz⟩ := bytes_open hf
    simp [Value.cells] at hcs
    obtain ⟨rfl, rfl, rfl⟩ := hcs
    exact ⟨L, hl, hb, hcz⟩
  obtain ⟨a1, len1, cap1, rfl⟩ := okWide_slice Tryd.underlying32 (hval 1 32 v1 rfl rfl)
  have k1 := h1
  have lt1 : ∀ x ∈ p1, x.block < W.heap.size := by obtain ⟨m, hm⟩ := k1; exact DataW.trod_lt m _ _ _ hm
  obtain ⟨L1, hL1, hB1, hw1⟩ : ∃ L : List Int, L.length = len1 ∧ IntsAt W a1 L ∧ ∀ x ∈ L, (Lit.int .i64 x).wf = true := by
    obtain ⟨fuel, hf⟩ := h1
    obtain ⟨ad, len, cap, L, hcs, hl, hc, hm, hb, hw⟩ := ints_open hf
    simp [Value.cells] at hcs
    obtain ⟨rfl, rfl, rfl⟩ := hcs
    exact ⟨L, hl, hb, hw⟩
  have LW := of_laid hL
  clear hA0 hval0 hz0
  refine (walk W LW a0 len0 cap0 L0 hL0 hB0 pl0 hc0 a1 len1 cap1 L1 hL1 hB1 hw1).mono fun e W' ⟨he, fr⟩ => ?_
  have bel : Below W.heap.size W W' := fr.below (Nat.le_refl _) (fun _ h => nomatch h)
  subst he
  exact ⟨_, rfl, _, _, _, [], _, [], hW', trodAll_mk1 (shut_bool Tryd.underlying4 _), (trodAll_cons_mk (Below.trod laidOut (by kernel_rfl) (of_decide_eq_true (by kernel_rfl)) k0 bel lt0) (trodAll_cons_mk (Below.trod laidOut (by kernel_rfl) (of_decide_eq_true (by kernel_rfl)) k1 bel lt1) trodAll_mk0)), rfl, bel.frame _, fun h => by cases h⟩

theorem over : Rows.labelGoesOnRow.holds Tryd.pinned (OpenSpec.ofChange Rows.labelGoesOnSpec) :=
  OpenClaim.holds_of_wide 4 Tryd.f4 rfl rfl rfl rfl rfl rfl rfl ⟨rfl, rfl, rfl, rfl, rfl⟩ rfl rfl rfl rfl rfl (by kernel_rfl) Tryd.func4 (by kernel_rfl)
    (of_decide_eq_true (by kernel_rfl)) (by unfold Func.isWrapper; first | (rw [if_pos (by decide +kernel)]; kernel_rfl) | (rw [if_neg (by decide +kernel)]; exact ⟨rfl, rfl⟩))
    (fun os started H enc _ => lifted os started H enc)

theorem proved : Rows.LabelGoesOnCardSaid :=
  Claim7.holds_tied_plain_at .later [] [.data, .data, .data, .data, .pinned] true (true, "24e057eda23eee0099546fefbff934ba3bbe9256453b7183ab58b310329ad61a") false
    over (fun _ h => by cases h) (by kernel_rfl) (fun _ h => by cases h) labelGoesOn_row_tie rfl ⟨rfl, rfl⟩ (by kernel_rfl) rfl
    (fun f fn hf hfn => by
      obtain rfl : f = 4 := Option.some.inj ((show Tryd.prog.funcNamed "parchment/parchmentlaw03.LabelGoesOn" = some 4 by kernel_rfl).symm.trans hf) |>.symm
      obtain rfl : fn = Tryd.f4 := (Option.some.inj (Tryd.func4.symm.trans hfn)).symm
      exact ⟨by kernel_rfl, fun j t ht => by
        rw [Tryd.params4] at ht
        have hm : t ∈ ([22, 32] : List TypeId) := by simpa using Array.mem_of_getElem? ht
        have hall : (([22, 32] : List TypeId).all fun u => !Tryd.prog.wantsStandIn u) = true := by kernel_rfl
        exact (show Tryd.prog.wantsStandIn t = false by simpa using List.all_eq_true.1 hall t hm)⟩)
    (by kernel_rfl)
end Go.Proofs.YtddcilmeignlmaaDoor.labelGoesOn

namespace Go.Proofs.YtddcilmeignlmaaDoor
theorem labelGoesOn_holds : Rows.LabelGoesOnCardSaid := labelGoesOn.proved
end Go.Proofs.YtddcilmeignlmaaDoor
#print axioms Go.Proofs.YtddcilmeignlmaaDoor.labelGoesOn_holds
