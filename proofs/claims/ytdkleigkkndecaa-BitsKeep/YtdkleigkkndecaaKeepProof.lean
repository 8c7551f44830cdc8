/-
  PROVED HERE: BitsKeep: for all bytes a, b and c, what is packed is unpacked, rows may be grouped as one likes, and two rows of which the longer one goes on with a 1 stand as their packed bytes do: the call returns true, and the arguments read as they did. No condition.
-/
import Derived.Test.YtdkleigkkndecaaRows
import Derived.Test.YtdkleigkkndecaaKeep
import Derived.Test.YtdkleigkkndecaaOpens
import Derived.WalkKit
import Derived.ProofKit
import Derived.OpenShut
import Derived.SizedLaws
import Derived.ChangeMaps5
namespace Go.Proofs.Ytdkleigkkndecaa.bitsKeep
open Go.ChangeShapes Go.WideShapes Go.ChangeAt Go.RowKit
set_option linter.unusedVariables false

theorem own : ownKnob Try.prog.godebug = none := by kernel_rfl
theorem laidOut : laidOutB Try.prog = true := by kernel_rfl

theorem keepWalk (w : World) (a1 : Option Addr) (n1 c1 : Nat) (l1 : List UInt8) (h1 : l1.length = n1) (m1 : n1 < 9223372036854775808) (b1 : BytesAt w a1 l1) (a2 : Option Addr) (n2 c2 : Nat) (l2 : List UInt8) (h2 : l2.length = n2) (m2 : n2 < 9223372036854775808) (b2 : BytesAt w a2 l2)
    (a3 : Option Addr) (n3 c3 : Nat) (l3 : List UInt8) (h3 : l3.length = n3) (m3 : n3 < 9223372036854775808) (b3 : BytesAt w a3 l3) :
    Calls Try.prog 7 #[.slice a1 n1 c1, .slice a2 n2 c2, .slice a3 n3 c3] w fun e w' => e = .returned (.bool true) ∧ Fr [] w w' := keep_law w a1 a2 a3 n1 n2 n3 c1 c2 c3 l1 l2 l3 h1 h2 h3 b1 b2 b3 m1 m2 m3

set_option maxRecDepth 100000 in
theorem lifted (os : Os) (started : os.Started) (H : Type) (enc : TypeId × Value → H) :
    ReturnsInHanded {} Try.checked os 7 .any (Rows.bitsKeepSpec.pre6 enc Try.prog Try.f7 Rows.bitsKeepRow.domain false) (Rows.bitsKeepSpec.post enc Try.prog Try.f7 false true false false) := by
  refine returnsInHanded_of_change_sized (C := Try.checked) own started (by kernel_rfl) Try.func7
    (ChangeSpec.witness6 (enc := enc) (C := Try.checked) false ⟨#[], #[.slice none 0 0, .slice none 0 0, .slice none 0 0], []⟩ 8 (by kernel_rfl) (by kernel_rfl) (by kernel_rfl) (by kernel_rfl)) ?_
  intro W base args ds gs before hval0 hW hcnd hz0 _
  have hval : ∀ (j : Nat) t v, Try.f7.params[j]? = some t → args[j]? = some v → Value.okWide Try.prog W .any base t v := hval0
  have hW' := hW
  obtain ⟨p, q, hA0, hV, rfl, hfz, hnd⟩ := hW
  have hA : DataW.TrodAll enc Try.prog W 0 (fun _ => true) true Try.f7.params.toList args.toList ds p := hA0
  have hz1 : (DataW.weightsEach Try.prog (Try.f7.params.toList ++ Rows.bitsKeepSpec.plain.varTypes Try.prog) (ds ++ gs)).all (· ≤ reachBytes) = true := hz0
  rw [Try.params7] at hA hval hz1
  obtain ⟨v0, vs0, d0, ds0, p0, q0, hargs, rfl, rfl, h0, r0⟩ := trodAll_cons hA
  obtain ⟨v1, vs1, d1, ds1, p1, q1, rfl, rfl, rfl, h1, r1⟩ := trodAll_cons r0
  obtain ⟨v2, vs2, d2, ds2, p2, q2, rfl, rfl, rfl, h2, r2⟩ := trodAll_cons r1
  obtain ⟨rfl, rfl, rfl⟩ := trodAll_nil r2
  obtain rfl : args = #[v0, v1, v2] := by cases args; simp_all
  obtain ⟨rfl, rfl⟩ := trodVars_none hV
  obtain ⟨a0, len0, cap0, rfl⟩ := okWide_slice Try.underlying36 (hval 0 36 v0 rfl rfl)
  have k0 := h0
  have lt0 : ∀ x ∈ p0, x.block < W.heap.size := by obtain ⟨m, hm⟩ := k0; exact DataW.trod_lt m _ _ _ hm
  obtain ⟨L0, hL0, hs0, hB0⟩ : ∃ L : List UInt8, L.length = len0 ∧ len0 < 9223372036854775808 ∧ BytesAt W a0 L := by
    obtain ⟨fuel, hf⟩ := h0
    obtain ⟨ad, len, cap, L, hcs, hl, hc, hm, hb⟩ := bytes_open hf
    simp [Value.cells] at hcs
    obtain ⟨rfl, rfl, rfl⟩ := hcs
    exact ⟨L, hl, by unfold maxLen at hm; omega, hb⟩
  obtain ⟨a1, len1, cap1, rfl⟩ := okWide_slice Try.underlying36 (hval 1 36 v1 rfl rfl)
  have k1 := h1
  have lt1 : ∀ x ∈ p1, x.block < W.heap.size := by obtain ⟨m, hm⟩ := k1; exact DataW.trod_lt m _ _ _ hm
  obtain ⟨L1, hL1, hs1, hB1⟩ : ∃ L : List UInt8, L.length = len1 ∧ len1 < 9223372036854775808 ∧ BytesAt W a1 L := by
    obtain ⟨fuel, hf⟩ := h1
    obtain ⟨ad, len, cap, L, hcs, hl, hc, hm, hb⟩ := bytes_open hf
    simp [Value.cells] at hcs
    obtain ⟨rfl, rfl, rfl⟩ := hcs
    exact ⟨L, hl, by unfold maxLen at hm; omega, hb⟩
  obtain ⟨a2, len2, cap2, rfl⟩ := okWide_slice Try.underlying36 (hval 2 36 v2 rfl rfl)
  have k2 := h2
  have lt2 : ∀ x ∈ p2, x.block < W.heap.size := by obtain ⟨m, hm⟩ := k2; exact DataW.trod_lt m _ _ _ hm
  obtain ⟨L2, hL2, hs2, hB2⟩ : ∃ L : List UInt8, L.length = len2 ∧ len2 < 9223372036854775808 ∧ BytesAt W a2 L := by
    obtain ⟨fuel, hf⟩ := h2
    obtain ⟨ad, len, cap, L, hcs, hl, hc, hm, hb⟩ := bytes_open hf
    simp [Value.cells] at hcs
    obtain ⟨rfl, rfl, rfl⟩ := hcs
    exact ⟨L, hl, by unfold maxLen at hm; omega, hb⟩
  clear hA0 hval0 hz0 hz1
  refine (keepWalk W a0 len0 cap0 L0 hL0 hs0 hB0 a1 len1 cap1 L1 hL1 hs1 hB1 a2 len2 cap2 L2 hL2 hs2 hB2).mono fun e W' ⟨he, fr⟩ => ?_
  have bel : Below W.heap.size W W' := fr.below (Nat.le_refl _) (fun _ h => nomatch h)
  subst he
  exact ⟨_, rfl, _, _, _, [], _, [], hW', trodAll_mk1 (shut_bool Try.underlying4 _), (trodAll_cons_mk (Below.trod laidOut (by kernel_rfl) (of_decide_eq_true (by kernel_rfl)) k0 bel lt0) (trodAll_cons_mk (Below.trod laidOut (by kernel_rfl) (of_decide_eq_true (by kernel_rfl)) k1 bel lt1) (trodAll_cons_mk (Below.trod laidOut (by kernel_rfl) (of_decide_eq_true (by kernel_rfl)) k2 bel lt2) trodAll_mk0))), rfl, bel.frame _, fun h => by cases h⟩

theorem over : Rows.bitsKeepRow.holds Try.pinned (OpenSpec.ofChange Rows.bitsKeepSpec) :=
  OpenClaim.holds_of_wide 7 Try.f7 rfl rfl rfl rfl rfl rfl rfl ⟨rfl, rfl, rfl, rfl, rfl⟩ rfl rfl rfl rfl rfl (by kernel_rfl) Try.func7 (by kernel_rfl)
    (of_decide_eq_true (by kernel_rfl)) (by unfold Func.isWrapper; first | (rw [if_pos (by decide +kernel)]; kernel_rfl) | (rw [if_neg (by decide +kernel)]; exact ⟨rfl, rfl⟩))
    (fun os started H enc _ => lifted os started H enc)

theorem proved : Rows.BitsKeepSaid := over
end Go.Proofs.Ytdkleigkkndecaa.bitsKeep

namespace Go.Proofs.Ytdkleigkkndecaa
theorem bitsKeep_holds : Rows.BitsKeepSaid := bitsKeep.proved
end Go.Proofs.Ytdkleigkkndecaa
#print axioms Go.Proofs.Ytdkleigkkndecaa.bitsKeep_holds
