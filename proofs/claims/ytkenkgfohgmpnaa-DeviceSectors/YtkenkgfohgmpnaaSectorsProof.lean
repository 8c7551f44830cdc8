/-
  PROVED HERE: DeviceSectors, the stage's theorem: for every row of steps and every row of fates, behind the crash each sector of a block is as it was when it was synced last, or as it was written last, whole, and as the fate says; a block that was not written since is as it was: the call returns true, and the arguments read as they did. No condition.
-/
import Derived.Test.YtkenkgfohgmpnaaRows
import Derived.Test.YtkenkgfohgmpnaaSectors
import Derived.Test.YtkenkgfohgmpnaaOpens
import Derived.WalkKit
import Derived.ProofKit
import Derived.OpenShut
namespace Go.Proofs.Ytkenkgfohgmpnaa.deviceSectors
open Go.ChangeShapes Go.WideShapes Go.ChangeAt Go.RowKit
set_option linter.unusedVariables false

theorem own : ownKnob Try.prog.godebug = none := by kernel_rfl
theorem laidOut : laidOutB Try.prog = true := by kernel_rfl

theorem walk (ad fa : Option Addr) (L : List DoV) (F : Fs) (len cap fl fc : Nat) (hlen : L.length = len) (hfl : F.length = fl) (w : World) (hD : DosAt w ad L) (hF : FatesAt w fa F) :
    Calls Try.prog 7 #[.slice ad len cap, .slice fa fl fc] w fun e w' => e = .returned (.bool true) ∧ Below w.heap.size w w' := by
  have fin : ∀ (e : Ending) (w' : World), (e = .returned (.bool true) ∧ Fr [] w w') → e = .returned (.bool true) ∧ Below w.heap.size w w' := fun _ _ h => ⟨h.1, h.2.below (Nat.le_refl _) (fun _ h => nomatch h)⟩
  by_cases h : 80 < len
  · exact (sec_long w ad fa len cap fl fc h).mono fin
  · by_cases hf : 1000 < fl
    · exact (sec_many w ad fa len cap fl fc (by omega) hf).mono fin
    · exact (sec_main w ad fa L F len cap fl fc hlen hfl (by omega) (by omega) hD hF).mono fin

set_option maxRecDepth 100000 in
theorem lifted (os : Os) (started : os.Started) (H : Type) (enc : TypeId × Value → H) :
    ReturnsInHanded {} Try.checked os 7 .any (Rows.deviceSectorsSpec.pre6 enc Try.prog Try.f7 Rows.deviceSectorsRow.domain false) (Rows.deviceSectorsSpec.post enc Try.prog Try.f7 false true false false) := by
  refine returnsInHanded_of_change (C := Try.checked) own started (by kernel_rfl) Try.func7
    (ChangeSpec.witness6 (enc := enc) (C := Try.checked) false ⟨#[], #[.slice none 0 0, .slice none 0 0], []⟩ 8 (by kernel_rfl) (by kernel_rfl) (by kernel_rfl) (by kernel_rfl)) ?_
  intro W base args ds gs before hval0 hW hcnd _
  have hval : ∀ (j : Nat) t v, Try.f7.params[j]? = some t → args[j]? = some v → Value.okWide Try.prog W .any base t v := hval0
  have hW' := hW
  obtain ⟨p, q, hA0, hV, rfl, hfz, hnd⟩ := hW
  have hA : DataW.TrodAll enc Try.prog W 0 (fun _ => true) true Try.f7.params.toList args.toList ds p := hA0
  rw [Try.params7] at hA hval
  obtain ⟨v0, vs0, d0, ds0, p0, q0, hargs, rfl, rfl, h0, r0⟩ := trodAll_cons hA
  obtain ⟨v1, vs1, d1, ds1, p1, q1, rfl, rfl, rfl, h1, r1⟩ := trodAll_cons r0
  obtain ⟨rfl, rfl, rfl⟩ := trodAll_nil r1
  obtain rfl : args = #[v0, v1] := by cases args; simp_all
  obtain ⟨rfl, rfl⟩ := trodVars_none hV
  obtain ⟨a0, len0, cap0, rfl⟩ := okWide_slice Try.underlying22 (hval 0 22 v0 rfl rfl)
  obtain ⟨a1, len1, cap1, rfl⟩ := okWide_slice Try.underlying28 (hval 1 28 v1 rfl rfl)
  have k0 := h0
  have k1 := h1
  have lt0 : ∀ x ∈ p0, x.block < W.heap.size := by obtain ⟨m, hm⟩ := k0; exact DataW.trod_lt m _ _ _ hm
  have lt1 : ∀ x ∈ p1, x.block < W.heap.size := by obtain ⟨m, hm⟩ := k1; exact DataW.trod_lt m _ _ _ hm
  obtain ⟨L, hL, hD⟩ : ∃ L : List DoV, L.length = len0 ∧ DosAt W a0 L := by
    obtain ⟨fuel, hf⟩ := h0
    obtain ⟨ad, len, cap, L, hcs, hl, hc, hd⟩ := dos_open hf
    simp [Value.cells] at hcs
    obtain ⟨rfl, rfl, rfl⟩ := hcs
    exact ⟨L, hl, hd⟩
  obtain ⟨F, hFl, hF⟩ : ∃ F : Fs, F.length = len1 ∧ FatesAt W a1 F := by
    obtain ⟨fuel, hf⟩ := h1
    obtain ⟨ad, len, cap, F, hcs, hl, hc, hd⟩ := fates_open hf
    simp [Value.cells] at hcs
    obtain ⟨rfl, rfl, rfl⟩ := hcs
    exact ⟨F, hl, hd⟩
  clear hA0 hval0
  refine (walk a0 a1 L F len0 cap0 len1 cap1 hL hFl W hD hF).mono fun e W' ⟨he, bel⟩ => ?_
  subst he
  exact ⟨_, rfl, _, _, _, [], _, [], hW', trodAll_mk1 (shut_bool Try.underlying4 _), (trodAll_cons_mk (Below.trod laidOut (by kernel_rfl) (of_decide_eq_true (by kernel_rfl)) k0 bel lt0) (trodAll_cons_mk (Below.trod laidOut (by kernel_rfl) (of_decide_eq_true (by kernel_rfl)) k1 bel lt1) trodAll_mk0)), rfl, bel.frame _, fun h => by cases h⟩

theorem over : Rows.deviceSectorsRow.holds Try.pinned (OpenSpec.ofChange Rows.deviceSectorsSpec) :=
  OpenClaim.holds_of_wide 7 Try.f7 rfl rfl rfl rfl rfl rfl rfl ⟨rfl, rfl, rfl, rfl, rfl⟩ rfl rfl rfl rfl rfl (by kernel_rfl) Try.func7 (by kernel_rfl)
    (of_decide_eq_true (by kernel_rfl)) (by unfold Func.isWrapper; first | (rw [if_pos (by decide +kernel)]; kernel_rfl) | (rw [if_neg (by decide +kernel)]; exact ⟨rfl, rfl⟩))
    (fun os started H enc _ => lifted os started H enc)

theorem proved : Rows.DeviceSectorsSaid := over
end Go.Proofs.Ytkenkgfohgmpnaa.deviceSectors

namespace Go.Proofs.Ytkenkgfohgmpnaa
theorem deviceSectors_holds : Rows.DeviceSectorsSaid := deviceSectors.proved
end Go.Proofs.Ytkenkgfohgmpnaa
#print axioms Go.Proofs.Ytkenkgfohgmpnaa.deviceSectors_holds
