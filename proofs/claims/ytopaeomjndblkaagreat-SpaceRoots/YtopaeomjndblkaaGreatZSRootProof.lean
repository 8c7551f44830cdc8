/-
  PROVED HERE: SpaceRoots: for every row of steps, a root is what it was set to last, whatever is taken meanwhile, and over a Commit; eight of them are apart: the call returns true, and the arguments read as they did. No condition.
-/
import Derived.Test.YtopaeomjndblkaaGreatRows
import Derived.Test.YtopaeomjndblkaaGreatZSRootL
import Derived.Test.YtopaeomjndblkaaGreatZSDos
import Derived.Test.YtopaeomjndblkaaGreatSRootC
import Derived.WalkKit
import Derived.ProofKit
import Derived.OpenShut
namespace Go.Proofs.YtopaeomjndblkaaGreat.spaceRoots
open Go.ChangeShapes Go.WideShapes Go.ChangeAt Go.RowKit
set_option linter.unusedVariables false

theorem own : ownKnob Tryz.prog.godebug = none := by kernel_rfl
theorem laidOut : laidOutB Tryz.prog = true := by kernel_rfl

set_option maxRecDepth 100000 in
theorem lifted (os : Os) (started : os.Started) (H : Type) (enc : TypeId × Value → H) :
    ReturnsInHanded {} Tryz.checked os 14 .any (Rows.spaceRootsSpec.pre6 enc Tryz.prog Tryz.f14 Rows.spaceRootsRow.domain false) (Rows.spaceRootsSpec.post enc Tryz.prog Tryz.f14 false true false false) := by
  refine returnsInHanded_of_change (C := Tryz.checked) own started (by kernel_rfl) Tryz.func14
    (ChangeSpec.witness6 (enc := enc) (C := Tryz.checked) false ⟨#[], #[.slice none 0 0], []⟩ 3 (by kernel_rfl) (by kernel_rfl) (by kernel_rfl) (by kernel_rfl)) ?_
  intro W base args ds gs before hval0 hW hcnd _
  have hval : ∀ (j : Nat) t v, Tryz.f14.params[j]? = some t → args[j]? = some v → Value.okWide Tryz.prog W .any base t v := hval0
  have hW' := hW
  obtain ⟨p, q, hA0, hV, rfl, hfz, hnd⟩ := hW
  have hA : DataW.TrodAll enc Tryz.prog W 0 (fun _ => true) true Tryz.f14.params.toList args.toList ds p := hA0
  rw [Tryz.params14] at hA hval
  obtain ⟨v0, vs0, d0, ds0, p0, q0, hargs, rfl, rfl, h0, r0⟩ := trodAll_cons hA
  obtain ⟨rfl, rfl, rfl⟩ := trodAll_nil r0
  obtain rfl : args = #[v0] := by cases args; simp_all
  obtain ⟨rfl, rfl⟩ := trodVars_none hV
  obtain ⟨a0, len0, cap0, rfl⟩ := okWide_slice Tryz.underlying113 (hval 0 113 v0 rfl rfl)
  have k0 := h0
  have lt0 : ∀ x ∈ p0, x.block < W.heap.size := by obtain ⟨m, hm⟩ := k0; exact DataW.trod_lt m _ _ _ hm
  obtain ⟨L0, hL0, hs0, hD0⟩ : ∃ L : List SDo, L.length = len0 ∧ (len0 ≤ cap0 ∧ cap0 < 9223372036854775808) ∧ SDosAt W a0 L := by
    obtain ⟨fuel, hf⟩ := h0
    obtain ⟨ad, len, cap, L, hcs, hl, hc, hm, hd⟩ := sdos_open hf
    simp [Value.cells] at hcs
    obtain ⟨rfl, rfl, rfl⟩ := hcs
    exact ⟨L, hl, ⟨hc, by unfold maxLen at hm; omega⟩, hd⟩
  clear hA0 hval0
  refine (spaceRoots_law W a0 len0 cap0 L0 hL0 hs0 hD0).mono fun e W' ⟨he, fr⟩ => ?_
  have bel : Below W.heap.size W W' := fr.below (Nat.le_refl _) (fun _ h => nomatch h)
  subst he
  exact ⟨_, rfl, _, _, _, [], _, [], hW', trodAll_mk1 (shut_bool Tryz.underlying4 _), (trodAll_cons_mk (Below.trod laidOut (by kernel_rfl) (of_decide_eq_true (by kernel_rfl)) k0 bel lt0) trodAll_mk0), rfl, bel.frame _, fun h => by cases h⟩

theorem over : Rows.spaceRootsRow.holds Tryz.pinned (OpenSpec.ofChange Rows.spaceRootsSpec) :=
  OpenClaim.holds_of_wide 14 Tryz.f14 rfl rfl rfl rfl rfl rfl rfl ⟨rfl, rfl, rfl, rfl, rfl⟩ rfl rfl rfl rfl rfl (by kernel_rfl) Tryz.func14 closed
    (of_decide_eq_true (by kernel_rfl)) (by unfold Func.isWrapper; first | (rw [if_pos (by decide +kernel)]; kernel_rfl) | (rw [if_neg (by decide +kernel)]; exact ⟨rfl, rfl⟩))
    (fun os started H enc _ => lifted os started H enc)

theorem proved : Rows.SpaceRootsSaid := over
end Go.Proofs.YtopaeomjndblkaaGreat.spaceRoots

namespace Go.Proofs.YtopaeomjndblkaaGreat
theorem spaceRoots_holds : Rows.SpaceRootsSaid := spaceRoots.proved
end Go.Proofs.YtopaeomjndblkaaGreat
#print axioms Go.Proofs.YtopaeomjndblkaaGreat.spaceRoots_holds

