/-
  PROVED HERE: ChangeNone: for every number, all bytes and every master, books that are not there do nothing and answer ErrNil, and devices that are not there, or have no master, have none: the call returns true, and the arguments read as they did. No condition.
-/
import Derived.Test.YtopaeomjndblkaaGreatRows
import Derived.Test.YtopaeomjndblkaaGreatX30Z
import Derived.Test.YtopaeomjndblkaaGreatX31Z
import Derived.Test.YtopaeomjndblkaaGreatX32Z
import Derived.WalkKit
import Derived.ProofKit
import Derived.OpenShut
namespace Go.Proofs.YtopaeomjndblkaaGreat.changeNone
open Go.ChangeShapes Go.WideShapes Go.ChangeAt Go.RowKit
set_option linter.unusedVariables false

theorem own : ownKnob Tryz.prog.godebug = none := by kernel_rfl
theorem laidOut : laidOutB Tryz.prog = true := by kernel_rfl
theorem celM : Tryz.prog.cellsOf 72 = 3 := by kernel_rfl
theorem cel2 : Tryz.prog.cellsOf 2 = 1 := by kernel_rfl
theorem list3 {α : Type} {l : List α} (h : l.length = 3) : ∃ c0 c1 c2, l = [c0, c1, c2] := by
  match l, h with
  | [c0, c1, c2], _ => exact ⟨c0, c1, c2, rfl⟩
section
variable {H : Type} {enc : TypeId × Value → H} {w : World} {base : Nat} {spare : TypeId → Bool} {held : Bool}
set_option maxRecDepth 100000 in
theorem mst_open {fuel : Nat} {cs : List Value} {x : DataW H × List MemPlace} (h : DataW.trod enc Tryz.prog w base spare held fuel 72 cs = some x) : ∃ p q r : Int, cs = [.int .i64 p, .int .i64 q, .int .i64 r] := by
  obtain ⟨ys, m, _, _, hl, hyl, hgg⟩ := DataW.trod_struct Tryz.underlying72 h
  rw [celM] at hl
  obtain ⟨c0, c1, c2, rfl⟩ := list3 hl
  obtain ⟨s0, s1, s2, rfl⟩ := list3 hyl
  have u0 := hgg 0 _ rfl
  have u1 := hgg 1 _ rfl
  have u2 := hgg 2 _ rfl
  simp [cel2] at u0 u1 u2
  obtain ⟨v0, e0, _, _⟩ := DataW.trod_int Tryz.underlying2 u0
  obtain ⟨v1, e1, _, _⟩ := DataW.trod_int Tryz.underlying2 u1
  obtain ⟨v2, e2, _, _⟩ := DataW.trod_int Tryz.underlying2 u2
  simp at e0 e1 e2
  subst e0 e1 e2
  exact ⟨v0, v1, v2, rfl⟩
end
set_option maxRecDepth 100000 in
set_option maxHeartbeats 1000000 in
theorem lifted (os : Os) (started : os.Started) (H : Type) (enc : TypeId × Value → H) :
    ReturnsInHanded {} Tryz.checked os 5 .any (Rows.changeNoneSpec.pre6 enc Tryz.prog Tryz.f5 Rows.changeNoneRow.domain false) (Rows.changeNoneSpec.post enc Tryz.prog Tryz.f5 false true false false) := by
  refine returnsInHanded_of_change (C := Tryz.checked) own started (by kernel_rfl) Tryz.func5
    (ChangeSpec.witness6 (enc := enc) (C := Tryz.checked) false ⟨#[], #[.int .i64 0, .slice none 0 0, .agg #[.int .i64 0, .int .i64 0, .int .i64 0]], []⟩ 3 (by kernel_rfl) (by kernel_rfl) (by kernel_rfl) (by kernel_rfl)) ?_
  intro W base args ds gs before hval0 hW hcnd _
  have hval : ∀ (j : Nat) t v, Tryz.f5.params[j]? = some t → args[j]? = some v → Value.okWide Tryz.prog W .any base t v := hval0
  have hW' := hW
  obtain ⟨p, q, hA0, hV, rfl, hfz, hnd⟩ := hW
  have hA : DataW.TrodAll enc Tryz.prog W 0 (fun _ => true) true Tryz.f5.params.toList args.toList ds p := hA0
  rw [Tryz.params5] at hA hval
  obtain ⟨v0, vs0, d0, ds0, p0, q0, hargs, rfl, rfl, h0, r0⟩ := trodAll_cons hA
  obtain ⟨v1, vs1, d1, ds1, p1, q1, rfl, rfl, rfl, h1, r1⟩ := trodAll_cons r0
  obtain ⟨v2, vs2, d2, ds2, p2, q2, rfl, rfl, rfl, h2, r2⟩ := trodAll_cons r1
  obtain ⟨rfl, rfl, rfl⟩ := trodAll_nil r2
  obtain rfl : args = #[v0, v1, v2] := by cases args; simp_all
  obtain ⟨rfl, rfl⟩ := trodVars_none hV
  obtain ⟨a0, rfl, rfl, rfl, w0⟩ := open_int Tryz.underlying3 (hval 0 3 v0 rfl rfl) h0
  obtain ⟨a1, len1, cap1, rfl⟩ := okWide_slice Tryz.underlying37 (hval 1 37 v1 rfl rfl)
  have k1 := h1
  have lt1 : ∀ x ∈ p1, x.block < W.heap.size := by obtain ⟨m, hm⟩ := k1; exact DataW.trod_lt m _ _ _ hm
  obtain ⟨cs2, rfl, hcs2⟩ := okWide_struct Tryz.underlying72 (hval 2 72 v2 rfl rfl)
  have k2 := h2
  have lt2 : ∀ x ∈ p2, x.block < W.heap.size := by obtain ⟨m, hm⟩ := k2; exact DataW.trod_lt m _ _ _ hm
  obtain ⟨x, y, z, e2⟩ : ∃ x y z : Int, cs2 = #[.int .i64 x, .int .i64 y, .int .i64 z] := by
    obtain ⟨fuel, hf⟩ := h2
    obtain ⟨x, y, z, hcs⟩ := mst_open hf
    simp only [Value.cells] at hcs
    exact ⟨x, y, z, Array.ext' hcs⟩
  subst e2
  clear hA0 hval0
  refine (cnone_law W a0 a1 len1 cap1 x y z).mono fun e W' ⟨he, fr⟩ => ?_
  have bel : Below W.heap.size W W' := fr.below (Nat.le_refl _) (fun _ h => nomatch h)
  subst he
  exact ⟨_, rfl, _, _, _, [], _, [], hW', trodAll_mk1 (shut_bool Tryz.underlying4 _), (trodAll_cons_mk (shut_int Tryz.underlying3 w0) (trodAll_cons_mk (Below.trod laidOut (by kernel_rfl) (of_decide_eq_true (by kernel_rfl)) k1 bel lt1) (trodAll_cons_mk (Below.trod laidOut (by kernel_rfl) (of_decide_eq_true (by kernel_rfl)) k2 bel lt2) trodAll_mk0))), rfl, bel.frame _, fun h => by cases h⟩

theorem over : Rows.changeNoneRow.holds Tryz.pinned (OpenSpec.ofChange Rows.changeNoneSpec) :=
  OpenClaim.holds_of_wide 5 Tryz.f5 rfl rfl rfl rfl rfl rfl rfl ⟨rfl, rfl, rfl, rfl, rfl⟩ rfl rfl rfl rfl rfl (by kernel_rfl) Tryz.func5 closed
    (of_decide_eq_true (by kernel_rfl)) (by unfold Func.isWrapper; first | (rw [if_pos (by decide +kernel)]; kernel_rfl) | (rw [if_neg (by decide +kernel)]; exact ⟨rfl, rfl⟩))
    (fun os started H enc _ => lifted os started H enc)

theorem proved : Rows.ChangeNoneSaid := over
end Go.Proofs.YtopaeomjndblkaaGreat.changeNone

namespace Go.Proofs.YtopaeomjndblkaaGreat
theorem changeNone_holds : Rows.ChangeNoneSaid := changeNone.proved
end Go.Proofs.YtopaeomjndblkaaGreat

