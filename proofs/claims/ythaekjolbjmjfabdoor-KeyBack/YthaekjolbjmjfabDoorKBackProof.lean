/-
  PROVED HERE: KeyBack: for all rows, all bytes behind them, and all numbers: what is put is got, whatever stands behind it, and just its bytes go by; what is got of any bytes is put as just those that go by: the call returns true, and the arguments read as they did (the library's variables start as the program's text lays them: the card ties them).
-/
import Derived.Test.YthaekjolbjmjfabDoorRows
import Derived.Test.YthaekjolbjmjfabDoorCards
import Derived.Test.YthaekjolbjmjfabDoorTie
import Derived.Test.YthaekjolbjmjfabDoorKBack
import Derived.Test.YthaekjolbjmjfabDoorKLaid
import Derived.Test.YthaekjolbjmjfabDoorOpens2
import Derived.WalkKit
import Derived.ProofKit
import Derived.OpenShut
import Derived.SizedLaws
import Derived.ChangeMaps5
import Derived.SevenTiedAt
namespace Go.Proofs.YthaekjolbjmjfabDoor.keyBack
open Go.ChangeShapes Go.WideShapes Go.ChangeAt Go.RowKit
set_option linter.unusedVariables false

theorem own : ownKnob Tryd.prog.godebug = none := by kernel_rfl
theorem laidOut : laidOutB Tryd.prog = true := by kernel_rfl

theorem i64b {x : Int} (h : (Lit.int .i64 x).wf = true) : -9223372036854775808 ≤ x ∧ x ≤ 9223372036854775807 := by
  simp [Lit.wf, show IntKind.i64.min = -9223372036854775808 from rfl, show IntKind.i64.max = 9223372036854775807 from rfl] at h
  exact h
theorem walk (W : World) (L : LaidW W) (a1 : Option Addr) (n1 c1 : Nat) (l1 : List UInt8) (h1 : l1.length = n1) (z1 : n1 < 140737488355328) (b1 : BytesAt W a1 l1) (_ : a1 = none → c1 = 0) (_ : n1 ≤ c1) (a2 : Option Addr) (n2 c2 : Nat) (l2 : List UInt8) (h2 : l2.length = n2) (z2 : n2 < 140737488355328) (b2 : BytesAt W a2 l2) (hc2 : a2 = none → c2 = 0) (hl2 : n2 ≤ c2)
    (x : Int) (hx : (Lit.int .i64 x).wf = true) :
    Calls Tryd.prog 3 #[.slice a1 n1 c1, .slice a2 n2 c2, .int .i64 x] W fun e w' => e = .returned (.bool true) ∧ Fr [] W w' := by
  have hx2 := i64b hx
  by_cases h : n1 + n2 ≤ 20000
  · cases a2 with
    | some a =>
      exact keyBack_law W L a1 a n1 n2 c1 c2 l1 l2 h1 h2 b1 b2 hl2 h x (x + 9223372036854775808).toNat (by omega) (by omega)
    | none =>
      have e2 := hc2 rfl
      subst e2
      obtain rfl : n2 = 0 := by omega
      exact keyBack_none W L a1 n1 c1 l1 h1 b1 h x (x + 9223372036854775808).toNat (by omega) (by omega)
  · exact keyBack_long W L a1 a2 n1 n2 c1 c2 z1 z2 (by omega) x

set_option maxRecDepth 100000 in
theorem lifted (os : Os) (started : os.Started) (H : Type) (enc : TypeId × Value → H) :
    ReturnsInHanded {} Tryd.checked os 3 .any (fun w args => (Rows.keyBackSpec.pre enc Tryd.prog Tryd.f3 [] false w args ∧ laidMetH Tryd.prog laidL w) ∧ sizedMet enc Tryd.prog Tryd.f3 (OpenSpec.ofChange Rows.keyBackSpec) false w args)
      (Rows.keyBackSpec.post enc Tryd.prog Tryd.f3 false true false false) := by
  refine returnsInHanded_of_change_and (C := Tryd.checked) (X := fun w _ => laidMetH Tryd.prog laidL w) (fun _ _ _ hh h => h.of_heap hh) own started (by kernel_rfl) Tryd.func3
    (ChangeSpec.witness_shaped (enc := enc) (C := Tryd.checked) (os := os) (X := fun w _ => laidMetH Tryd.prog laidL w) false (World.doorLaid Tryd.prog 400 os) #[.slice none 0 0, .slice none 0 0, .int .i64 0] 8 rfl (World.shaped_of_RefB (by kernel_rfl) (by kernel_rfl)) (by kernel_rfl) (by kernel_rfl) (by kernel_rfl) (door_met os _)) ?_
  intro W base args ds gs before hval0 hW hcnd hz0 hL _
  have hval : ∀ (j : Nat) t v, Tryd.f3.params[j]? = some t → args[j]? = some v → Value.okWide Tryd.prog W .any base t v := hval0
  have hW' := hW
  obtain ⟨p, q, hA0, hV, rfl, hfz, hnd⟩ := hW
  have hA : DataW.TrodAll enc Tryd.prog W 0 (fun _ => true) true Tryd.f3.params.toList args.toList ds p := hA0
  have hz1 : (DataW.weightsEach Tryd.prog (Tryd.f3.params.toList ++ Rows.keyBackSpec.plain.varTypes Tryd.prog) (ds ++ gs)).all (· ≤ reachBytes) = true := hz0
  rw [Tryd.params3] at hA hval hz1
  obtain ⟨v0, vs0, d0, ds0, p0, q0, hargs, rfl, rfl, h0, r0⟩ := trodAll_cons hA
  obtain ⟨v1, vs1, d1, ds1, p1, q1, rfl, rfl, rfl, h1, r1⟩ := trodAll_cons r0
  obtain ⟨v2, vs2, d2, ds2, p2, q2, rfl, rfl, rfl, h2, r2⟩ := trodAll_cons r1
  obtain ⟨rfl, rfl, rfl⟩ := trodAll_nil r2
  obtain rfl : args = #[v0, v1, v2] := by cases args; simp_all
  obtain ⟨rfl, rfl⟩ := trodVars_none hV
  obtain ⟨a0, len0, cap0, rfl⟩ := okWide_slice Tryd.underlying22 (hval 0 22 v0 rfl rfl)
  have k0 := h0
  have lt0 : ∀ x ∈ p0, x.block < W.heap.size := by obtain ⟨m, hm⟩ := k0; exact DataW.trod_lt m _ _ _ hm
  obtain ⟨L0, hL0, hs0, hB0, hc0, hlc0⟩ : ∃ L : List UInt8, L.length = len0 ∧ len0 < 140737488355328 ∧ BytesAt W a0 L ∧ (a0 = none → cap0 = 0) ∧ len0 ≤ cap0 := by
    obtain ⟨fuel, hf⟩ := h0
    obtain ⟨ad, len, cap, L, hcs, hl, hc, hm, hb, hcz, hx⟩ := bytes_open2 hf
    simp [Value.cells] at hcs
    obtain ⟨rfl, rfl, rfl⟩ := hcs
    refine ⟨L, hl, ?_, hb, hcz, hc⟩
    rcases hx with h0 | ⟨elems, sp, he, hlen⟩
    · omega
    · have he' : d0 = .slice elems sp := he
      have h5 := sized_slice hz1 (j := 0) (t := 22) (e := 5) (elems := elems) (spare := sp) rfl (by rw [he']; rfl) Tryd.underlying22
      have h6 := reachBytes_lt
      rw [Tryd.bytes5] at h5
      omega
  obtain ⟨a1, len1, cap1, rfl⟩ := okWide_slice Tryd.underlying22 (hval 1 22 v1 rfl rfl)
  have k1 := h1
  have lt1 : ∀ x ∈ p1, x.block < W.heap.size := by obtain ⟨m, hm⟩ := k1; exact DataW.trod_lt m _ _ _ hm
  obtain ⟨L1, hL1, hs1, hB1, hc1, hlc1⟩ : ∃ L : List UInt8, L.length = len1 ∧ len1 < 140737488355328 ∧ BytesAt W a1 L ∧ (a1 = none → cap1 = 0) ∧ len1 ≤ cap1 := by
    obtain ⟨fuel, hf⟩ := h1
    obtain ⟨ad, len, cap, L, hcs, hl, hc, hm, hb, hcz, hx⟩ := bytes_open2 hf
    simp [Value.cells] at hcs
    obtain ⟨rfl, rfl, rfl⟩ := hcs
    refine ⟨L, hl, ?_, hb, hcz, hc⟩
    rcases hx with h0 | ⟨elems, sp, he, hlen⟩
    · omega
    · have he' : d1 = .slice elems sp := he
      have h5 := sized_slice hz1 (j := 1) (t := 22) (e := 5) (elems := elems) (spare := sp) rfl (by rw [he']; rfl) Tryd.underlying22
      have h6 := reachBytes_lt
      rw [Tryd.bytes5] at h5
      omega
  obtain ⟨a2, rfl, rfl, rfl, w2⟩ := open_int Tryd.underlying2 (hval 2 2 v2 rfl rfl) h2
  have LW := of_laid hL
  clear hA0 hval0 hz0 hz1
  refine (walk W LW a0 len0 cap0 L0 hL0 hs0 hB0 hc0 hlc0 a1 len1 cap1 L1 hL1 hs1 hB1 hc1 hlc1 a2 w2).mono fun e W' ⟨he, fr⟩ => ?_
  have bel : Below W.heap.size W W' := fr.below (Nat.le_refl _) (fun _ h => nomatch h)
  subst he
  exact ⟨_, rfl, _, _, _, [], _, [], hW', trodAll_mk1 (shut_bool Tryd.underlying4 _), (trodAll_cons_mk (Below.trod laidOut (by kernel_rfl) (of_decide_eq_true (by kernel_rfl)) k0 bel lt0) (trodAll_cons_mk (Below.trod laidOut (by kernel_rfl) (of_decide_eq_true (by kernel_rfl)) k1 bel lt1) (trodAll_cons_mk (shut_int Tryd.underlying2 w2) trodAll_mk0))), rfl, bel.frame _, fun h => by cases h⟩

theorem over : Rows.keyBackRow.holds Tryd.pinned (OpenSpec.ofChange Rows.keyBackSpec) :=
  OpenClaim.holds_of_wide 3 Tryd.f3 rfl rfl rfl rfl rfl rfl rfl ⟨rfl, rfl, rfl, rfl, rfl⟩ rfl rfl rfl rfl rfl (by kernel_rfl) Tryd.func3 (by kernel_rfl)
    (of_decide_eq_true (by kernel_rfl)) (by unfold Func.isWrapper; first | (rw [if_pos (by decide +kernel)]; kernel_rfl) | (rw [if_neg (by decide +kernel)]; exact ⟨rfl, rfl⟩))
    (fun os started H enc _ => lifted os started H enc)

theorem proved : Rows.KeyBackCardSaid :=
  Claim7.holds_tied_plain_at .later [] [.data, .data, .data, .sentinel, .sentinel] true (true, "78f17c1d6690352c20b5265b150d83028bf84c5f12012c9472cf2cf7d20c1eec") true
    over (fun _ h => by cases h) (by kernel_rfl) (fun _ h => by cases h) keyBack_row_tie rfl ⟨rfl, rfl⟩ (by kernel_rfl) rfl
    (fun f fn hf hfn => by
      obtain rfl : f = 3 := Option.some.inj ((show Tryd.prog.funcNamed "parchment/parchmentlaw04.KeyBack" = some 3 by kernel_rfl).symm.trans hf) |>.symm
      obtain rfl : fn = Tryd.f3 := (Option.some.inj (Tryd.func3.symm.trans hfn)).symm
      exact ⟨by kernel_rfl, fun j t ht => by
        rw [Tryd.params3] at ht
        have hm : t ∈ ([22, 22, 2] : List TypeId) := by simpa using Array.mem_of_getElem? ht
        have hall : (([22, 22, 2] : List TypeId).all fun u => !Tryd.prog.wantsStandIn u) = true := by kernel_rfl
        exact (show Tryd.prog.wantsStandIn t = false by simpa using List.all_eq_true.1 hall t hm)⟩)
    (by kernel_rfl)
end Go.Proofs.YthaekjolbjmjfabDoor.keyBack

namespace Go.Proofs.YthaekjolbjmjfabDoor
theorem keyBack_holds : Rows.KeyBackCardSaid := keyBack.proved
end Go.Proofs.YthaekjolbjmjfabDoor
#print axioms Go.Proofs.YthaekjolbjmjfabDoor.keyBack_holds
