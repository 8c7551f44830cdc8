/-
  PROVED HERE: LogBytes: for every record and all bytes, Put and Get of the log answer as the document's own do, and what is handed in stays: the call returns true, and the arguments read as they did. No condition.
-/
import Derived.Test.YticmjdblcomecaaRows
import Derived.Test.YticmjdblcomecaaQBytesL
import Derived.Test.YticmjdblcomecaaQOpensZ
import Derived.WalkKit
import Derived.ProofKit
import Derived.OpenShut
import Derived.SizedLaws
import Derived.ChangeMaps5
namespace Go.Proofs.Yticmjdblcomecaa.logBytes
open Go.ChangeShapes Go.WideShapes Go.ChangeAt Go.RowKit
set_option linter.unusedVariables false

theorem own : ownKnob Try.prog.godebug = none := by kernel_rfl
theorem laidOut : laidOutB Try.prog = true := by kernel_rfl

set_option maxRecDepth 100000 in
set_option maxHeartbeats 1000000 in
theorem lifted (os : Os) (started : os.Started) (H : Type) (enc : TypeId × Value → H) :
    ReturnsInHanded {} Try.checked os 3 .any (Rows.logBytesSpec.pre6 enc Try.prog Try.f3 Rows.logBytesRow.domain false) (Rows.logBytesSpec.post enc Try.prog Try.f3 false true false false) := by
  refine returnsInHanded_of_change_sized (C := Try.checked) own started (by kernel_rfl) Try.func3
    (ChangeSpec.witness6 (enc := enc) (C := Try.checked) false ⟨#[], #[.agg #[.int .i64 0, .int .i64 0, .int .u8 0, .int .i64 0, .int .i64 0, .int .i64 0, .int .i64 0, .int .i64 0, .slice none 0 0, .slice none 0 0], .slice none 0 0], []⟩ 3 (by kernel_rfl) (by kernel_rfl) (by kernel_rfl) (by kernel_rfl)) ?_
  intro W base args ds gs before hval0 hW hcnd hz0 _
  have hval : ∀ (j : Nat) t v, Try.f3.params[j]? = some t → args[j]? = some v → Value.okWide Try.prog W .any base t v := hval0
  have hW' := hW
  obtain ⟨p, q, hA0, hV, rfl, hfz, hnd⟩ := hW
  have hA : DataW.TrodAll enc Try.prog W 0 (fun _ => true) true Try.f3.params.toList args.toList ds p := hA0
  have hz1 : (DataW.weightsEach Try.prog (Try.f3.params.toList ++ Rows.logBytesSpec.plain.varTypes Try.prog) (ds ++ gs)).all (· ≤ reachBytes) = true := hz0
  rw [Try.params3] at hA hval hz1
  obtain ⟨v0, vs0, d0, ds0, p0, q0, hargs, rfl, rfl, h0, r0⟩ := trodAll_cons hA
  obtain ⟨v1, vs1, d1, ds1, p1, q1, rfl, rfl, rfl, h1, r1⟩ := trodAll_cons r0
  obtain ⟨rfl, rfl, rfl⟩ := trodAll_nil r1
  obtain rfl : args = #[v0, v1] := by cases args; simp_all
  obtain ⟨rfl, rfl⟩ := trodVars_none hV
  obtain ⟨cs0, rfl, hcs0⟩ := okWide_struct Try.underlying27 (hval 0 27 v0 rfl rfl)
  have k0 := h0
  have lt0 : ∀ x ∈ p0, x.block < W.heap.size := by obtain ⟨m, hm⟩ := k0; exact DataW.trod_lt m _ _ _ hm
  obtain ⟨R0, Sp0, e0, hS0, ho0, hn0⟩ : ∃ r s, cs0 = recV r s ∧ SpotsAt W r s ∧ r.old.length < 140737488355328 ∧ r.new.length < 140737488355328 := by
    obtain ⟨fuel, hf⟩ := h0
    obtain ⟨r, s, hcs, hS, hK, hsz⟩ := rec_openZ hf
    simp only [Value.cells] at hcs
    have h5 := hsz (fun n hn => by
      have := List.all_eq_true.1 hz1 n (DataW.weights_mem_each (j := 0) (t := 27) (d := d0) rfl rfl n hn)
      simpa using this)
    have h6 := reachBytes_lt
    exact ⟨r, s, Array.ext' hcs, hS, by omega, by omega⟩
  subst e0
  obtain ⟨a1, len1, cap1, rfl⟩ := okWide_slice Try.underlying23 (hval 1 23 v1 rfl rfl)
  have k1 := h1
  have lt1 : ∀ x ∈ p1, x.block < W.heap.size := by obtain ⟨m, hm⟩ := k1; exact DataW.trod_lt m _ _ _ hm
  obtain ⟨L1, hB1, hs1, hc1⟩ : ∃ L : List UInt8, SlAt W a1 len1 cap1 L ∧ len1 < 140737488355328 ∧ (a1 = none → cap1 = 0) := by
    obtain ⟨fuel, hf⟩ := h1
    obtain ⟨ad, len, cap, L, hcs, hl, hc, hm, hb, hcz, hx⟩ := bytes_open2 hf
    simp [Value.cells] at hcs
    obtain ⟨rfl, rfl, rfl⟩ := hcs
    refine ⟨L, ⟨hl, hb, hc⟩, ?_, hcz⟩
    rcases hx with h0 | ⟨elems, sp, he, hlen⟩
    · omega
    · have he' : d1 = .slice elems sp := he
      have h5 := sized_slice hz1 (j := 1) (t := 23) (e := 5) (elems := elems) (spare := sp) rfl (by rw [he']; rfl) Try.underlying23
      have h6 := reachBytes_lt
      rw [Try.bytes5] at h5
      omega
  clear hA0 hval0
  refine (bytes_law W R0 Sp0 hS0 ho0 hn0 a1 len1 cap1 L1 hB1 hs1 hc1).mono fun e W' ⟨he, fr⟩ => ?_
  have bel : Below W.heap.size W W' := fr.below (Nat.le_refl _) (fun _ h => nomatch h)
  subst he
  exact ⟨_, rfl, _, _, _, [], _, [], hW', trodAll_mk1 (shut_bool Try.underlying4 _), (trodAll_cons_mk (Below.trod laidOut (by kernel_rfl) (of_decide_eq_true (by kernel_rfl)) k0 bel lt0) (trodAll_cons_mk (Below.trod laidOut (by kernel_rfl) (of_decide_eq_true (by kernel_rfl)) k1 bel lt1) trodAll_mk0)), rfl, bel.frame _, fun h => by cases h⟩

theorem over : Rows.logBytesRow.holds Try.pinned (OpenSpec.ofChange Rows.logBytesSpec) :=
  OpenClaim.holds_of_wide 3 Try.f3 rfl rfl rfl rfl rfl rfl rfl ⟨rfl, rfl, rfl, rfl, rfl⟩ rfl rfl rfl rfl rfl (by kernel_rfl) Try.func3 (by kernel_rfl)
    (of_decide_eq_true (by kernel_rfl)) (by unfold Func.isWrapper; first | (rw [if_pos (by decide +kernel)]; kernel_rfl) | (rw [if_neg (by decide +kernel)]; exact ⟨rfl, rfl⟩))
    (fun os started H enc _ => lifted os started H enc)

theorem proved : Rows.LogBytesSaid := over
end Go.Proofs.Yticmjdblcomecaa.logBytes

namespace Go.Proofs.Yticmjdblcomecaa
theorem logBytes_holds : Rows.LogBytesSaid := logBytes.proved
end Go.Proofs.Yticmjdblcomecaa
#print axioms Go.Proofs.Yticmjdblcomecaa.logBytes_holds
