/-
  PROVED HERE: BitsPack: for every text a, all bytes b (at most 5000 bytes together) and every number n, rows are packed and bytes unpacked just as the document tells, and the bytes stay: the call returns true, and the arguments read as they did. No condition.
-/
import Derived.Test.YtdkleigkkndecaaRows
import Derived.Test.YtdkleigkkndecaaPackLaw
import Derived.Test.YtdkleigkkndecaaOpens2
import Derived.WalkKit
import Derived.ProofKit
import Derived.OpenShut
import Derived.SizedLaws
import Derived.ChangeMaps5
namespace Go.Proofs.Ytdkleigkkndecaa.bitsPack
open Go.ChangeShapes Go.WideShapes Go.ChangeAt Go.RowKit
set_option linter.unusedVariables false

theorem own : ownKnob Try.prog.godebug = none := by kernel_rfl
theorem laidOut : laidOutB Try.prog = true := by kernel_rfl

set_option maxRecDepth 100000 in
theorem lifted (os : Os) (started : os.Started) (H : Type) (enc : TypeId × Value → H) :
    ReturnsInHanded {} Try.checked os 4 .any (Rows.bitsPackSpec.pre6 enc Try.prog Try.f4 Rows.bitsPackRow.domain false) (Rows.bitsPackSpec.post enc Try.prog Try.f4 false true false false) := by
  refine returnsInHanded_of_change_sized (C := Try.checked) own started (by kernel_rfl) Try.func4
    (ChangeSpec.witness6 (enc := enc) (C := Try.checked) false ⟨#[], #[.string ⟨#[]⟩, .slice none 0 0, .int .i64 0], []⟩ 8 (by kernel_rfl) (by kernel_rfl) (by kernel_rfl) (by kernel_rfl)) ?_
  intro W base args ds gs before hval0 hW hcnd hz0 _
  have hval : ∀ (j : Nat) t v, Try.f4.params[j]? = some t → args[j]? = some v → Value.okWide Try.prog W .any base t v := hval0
  have hW' := hW
  obtain ⟨p, q, hA0, hV, rfl, hfz, hnd⟩ := hW
  have hA : DataW.TrodAll enc Try.prog W 0 (fun _ => true) true Try.f4.params.toList args.toList ds p := hA0
  have hz1 : (DataW.weightsEach Try.prog (Try.f4.params.toList ++ Rows.bitsPackSpec.plain.varTypes Try.prog) (ds ++ gs)).all (· ≤ reachBytes) = true := hz0
  rw [Try.params4] at hA hval hz1
  obtain ⟨v0, vs0, d0, ds0, p0, q0, hargs, rfl, rfl, h0, r0⟩ := trodAll_cons hA
  obtain ⟨v1, vs1, d1, ds1, p1, q1, rfl, rfl, rfl, h1, r1⟩ := trodAll_cons r0
  obtain ⟨v2, vs2, d2, ds2, p2, q2, rfl, rfl, rfl, h2, r2⟩ := trodAll_cons r1
  obtain ⟨rfl, rfl, rfl⟩ := trodAll_nil r2
  obtain rfl : args = #[v0, v1, v2] := by cases args; simp_all
  obtain ⟨rfl, rfl⟩ := trodVars_none hV
  obtain ⟨s0, rfl, rfl, rfl, hs0⟩ := ChangeMaps.open_string Try.underlying9 (hval 0 9 v0 rfl rfl) h0
  have z0 : s0.size < 140737488355328 := by
    have h1 := sized_string hz1 (j := 0) (t := 9) rfl rfl
    have h2 := reachBytes_lt
    have h3 : s0.data.toList.length = s0.size := rfl
    omega
  obtain ⟨a1, len1, cap1, rfl⟩ := okWide_slice Try.underlying36 (hval 1 36 v1 rfl rfl)
  have k1 := h1
  have lt1 : ∀ x ∈ p1, x.block < W.heap.size := by obtain ⟨m, hm⟩ := k1; exact DataW.trod_lt m _ _ _ hm
  obtain ⟨L1, hL1, hs1, hB1, hc1⟩ : ∃ L : List UInt8, L.length = len1 ∧ len1 < 140737488355328 ∧ BytesAt W a1 L ∧ (a1 = none → cap1 = 0) := by
    obtain ⟨fuel, hf⟩ := h1
    obtain ⟨ad, len, cap, L, hcs, hl, hc, hm, hb, hcz, hx⟩ := bytes_open2 hf
    simp [Value.cells] at hcs
    obtain ⟨rfl, rfl, rfl⟩ := hcs
    refine ⟨L, hl, ?_, hb, hcz⟩
    rcases hx with h0 | ⟨elems, sp, he, hlen⟩
    · omega
    · have he' : d1 = .slice elems sp := he
      have h5 := sized_slice hz1 (j := 1) (t := 36) (e := 5) (elems := elems) (spare := sp) rfl (by rw [he']; rfl) Try.underlying36
      have h6 := reachBytes_lt
      rw [Try.bytes5] at h5
      omega
  obtain ⟨a2, rfl, rfl, rfl, w2⟩ := open_int Try.underlying3 (hval 2 3 v2 rfl rfl) h2
  clear hA0 hval0 hz0 hz1
  refine (pack_law W s0 z0 a1 len1 cap1 L1 hL1 hs1 hB1 hc1 a2 w2).mono fun e W' ⟨he, fr⟩ => ?_
  have bel : Below W.heap.size W W' := fr.below (Nat.le_refl _) (fun _ h => nomatch h)
  subst he
  exact ⟨_, rfl, _, _, _, [], _, [], hW', trodAll_mk1 (shut_bool Try.underlying4 _), (trodAll_cons_mk (ChangeMaps.shut_string Try.underlying9 hs0) (trodAll_cons_mk (Below.trod laidOut (by kernel_rfl) (of_decide_eq_true (by kernel_rfl)) k1 bel lt1) (trodAll_cons_mk (shut_int Try.underlying3 w2) trodAll_mk0))), rfl, bel.frame _, fun h => by cases h⟩

theorem over : Rows.bitsPackRow.holds Try.pinned (OpenSpec.ofChange Rows.bitsPackSpec) :=
  OpenClaim.holds_of_wide 4 Try.f4 rfl rfl rfl rfl rfl rfl rfl ⟨rfl, rfl, rfl, rfl, rfl⟩ rfl rfl rfl rfl rfl (by kernel_rfl) Try.func4 (by kernel_rfl)
    (of_decide_eq_true (by kernel_rfl)) (by unfold Func.isWrapper; first | (rw [if_pos (by decide +kernel)]; kernel_rfl) | (rw [if_neg (by decide +kernel)]; exact ⟨rfl, rfl⟩))
    (fun os started H enc _ => lifted os started H enc)

theorem proved : Rows.BitsPackSaid := over
end Go.Proofs.Ytdkleigkkndecaa.bitsPack

namespace Go.Proofs.Ytdkleigkkndecaa
theorem bitsPack_holds : Rows.BitsPackSaid := bitsPack.proved
end Go.Proofs.Ytdkleigkkndecaa
#print axioms Go.Proofs.Ytdkleigkkndecaa.bitsPack_holds
