/-
  PROVED HERE: DeviceCopies: for every number of blocks, every row of steps and every place in it, a copy of a device that is made there goes on by itself, with what is open and when it crashes, as the document's own copy does, and neither knows of the other; what is read is new memory each time: the call returns true, and the arguments read as they did. No condition.
-/
import Derived.Test.YtkenkgfohgmpnaaRows
import Derived.Test.YtkenkgfohgmpnaaCLaw
import Derived.Test.YtkenkgfohgmpnaaOpens
import Derived.WalkKit
import Derived.ProofKit
import Derived.OpenShut
namespace Go.Proofs.Ytkenkgfohgmpnaa.deviceCopies
open Go.ChangeShapes Go.WideShapes Go.ChangeAt Go.RowKit
set_option linter.unusedVariables false

theorem own : ownKnob Try.prog.godebug = none := by kernel_rfl
theorem laidOut : laidOutB Try.prog = true := by kernel_rfl

theorem walk (n : Int) (ad : Option Addr) (L : List DoV) (len cap : Nat) (hlen : L.length = len) (hcap : len ≤ cap) (x : Int) (hx : (Lit.int .i64 x).wf = true) (w : World) (hD : DosAt w ad L) :
    Calls Try.prog 4 #[.int .i64 n, .slice ad len cap, .int .i64 x] w fun e w' => e = .returned (.bool true) ∧ Below w.heap.size w w' := by
  have h : Calls Try.prog 4 #[.int .i64 n, .slice ad len cap, .int .i64 x] w fun e w' => e = .returned (.bool true) ∧ Fr [] w w' := by
    by_cases h : len ≤ 80
    · by_cases hk : 1 ≤ n ∧ n ≤ 65536
      · exact C.copies_short w n hk.1 hk.2 ad L len cap hlen h hD x hx
      · exact C.copies_bad_short w n (by omega) ad len cap h x
    · by_cases hk : 1 ≤ n ∧ n ≤ 65536
      · exact C.copies_long w n hk.1 hk.2 ad L len cap hlen hcap (by omega) hD x hx
      · exact C.copies_bad_long w n (by omega) ad len cap hcap (by omega) x
  exact h.mono fun _ _ h => ⟨h.1, h.2.below (Nat.le_refl _) (fun _ h => nomatch h)⟩

set_option maxRecDepth 100000 in
theorem lifted (os : Os) (started : os.Started) (H : Type) (enc : TypeId × Value → H) :
    ReturnsInHanded {} Try.checked os 4 .any (Rows.deviceCopiesSpec.pre6 enc Try.prog Try.f4 Rows.deviceCopiesRow.domain false) (Rows.deviceCopiesSpec.post enc Try.prog Try.f4 false true false false) := by
  refine returnsInHanded_of_change (C := Try.checked) own started (by kernel_rfl) Try.func4
    (ChangeSpec.witness6 (enc := enc) (C := Try.checked) false ⟨#[], #[.int .i64 0, .slice none 0 0, .int .i64 0], []⟩ 3 (by kernel_rfl) (by kernel_rfl) (by kernel_rfl) (by kernel_rfl)) ?_
  intro W base args ds gs before hval0 hW hcnd _
  have hval : ∀ (j : Nat) t v, Try.f4.params[j]? = some t → args[j]? = some v → Value.okWide Try.prog W .any base t v := hval0
  have hW' := hW
  obtain ⟨p, q, hA0, hV, rfl, hfz, hnd⟩ := hW
  have hA : DataW.TrodAll enc Try.prog W 0 (fun _ => true) true Try.f4.params.toList args.toList ds p := hA0
  rw [Try.params4] at hA hval
  obtain ⟨v0, vs0, d0, ds0, p0, q0, hargs, rfl, rfl, h0, r0⟩ := trodAll_cons hA
  obtain ⟨v1, vs1, d1, ds1, p1, q1, rfl, rfl, rfl, h1, r1⟩ := trodAll_cons r0
  obtain ⟨v2, vs2, d2, ds2, p2, q2, rfl, rfl, rfl, h2, r2⟩ := trodAll_cons r1
  obtain ⟨rfl, rfl, rfl⟩ := trodAll_nil r2
  obtain rfl : args = #[v0, v1, v2] := by cases args; simp_all
  obtain ⟨rfl, rfl⟩ := trodVars_none hV
  obtain ⟨a0, rfl, rfl, rfl, w0⟩ := open_int Try.underlying3 (hval 0 3 v0 rfl rfl) h0
  obtain ⟨a1, len1, cap1, rfl⟩ := okWide_slice Try.underlying22 (hval 1 22 v1 rfl rfl)
  have k1 := h1
  have lt1 : ∀ x ∈ p1, x.block < W.heap.size := by obtain ⟨m, hm⟩ := k1; exact DataW.trod_lt m _ _ _ hm
  obtain ⟨L, hL, hcap, hD⟩ : ∃ L : List DoV, L.length = len1 ∧ len1 ≤ cap1 ∧ DosAt W a1 L := by
    obtain ⟨fuel, hf⟩ := h1
    obtain ⟨ad, len, cap, L, hcs, hl, hc, hd⟩ := dos_open hf
    simp [Value.cells] at hcs
    obtain ⟨rfl, rfl, rfl⟩ := hcs
    exact ⟨L, hl, hc, hd⟩
  obtain ⟨a2, rfl, rfl, rfl, w2⟩ := open_int Try.underlying3 (hval 2 3 v2 rfl rfl) h2
  clear hA0 hval0
  refine (walk a0 a1 L len1 cap1 hL hcap a2 w2 W hD).mono fun e W' ⟨he, bel⟩ => ?_
  subst he
  exact ⟨_, rfl, _, _, _, [], _, [], hW', trodAll_mk1 (shut_bool Try.underlying4 _), (trodAll_cons_mk (shut_int Try.underlying3 w0) (trodAll_cons_mk (Below.trod laidOut (by kernel_rfl) (of_decide_eq_true (by kernel_rfl)) k1 bel lt1) (trodAll_cons_mk (shut_int Try.underlying3 w2) trodAll_mk0))), rfl, bel.frame _, fun h => by cases h⟩

theorem over : Rows.deviceCopiesRow.holds Try.pinned (OpenSpec.ofChange Rows.deviceCopiesSpec) :=
  OpenClaim.holds_of_wide 4 Try.f4 rfl rfl rfl rfl rfl rfl rfl ⟨rfl, rfl, rfl, rfl, rfl⟩ rfl rfl rfl rfl rfl (by kernel_rfl) Try.func4 (by kernel_rfl)
    (of_decide_eq_true (by kernel_rfl)) (by unfold Func.isWrapper; first | (rw [if_pos (by decide +kernel)]; kernel_rfl) | (rw [if_neg (by decide +kernel)]; exact ⟨rfl, rfl⟩))
    (fun os started H enc _ => lifted os started H enc)

theorem proved : Rows.DeviceCopiesSaid := over
end Go.Proofs.Ytkenkgfohgmpnaa.deviceCopies

namespace Go.Proofs.Ytkenkgfohgmpnaa
theorem deviceCopies_holds : Rows.DeviceCopiesSaid := deviceCopies.proved
end Go.Proofs.Ytkenkgfohgmpnaa
#print axioms Go.Proofs.Ytkenkgfohgmpnaa.deviceCopies_holds
