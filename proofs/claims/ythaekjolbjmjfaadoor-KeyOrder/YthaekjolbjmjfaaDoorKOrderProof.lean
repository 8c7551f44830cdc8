/-
  PROVED HERE: KeyOrder, the stage's theorem: for all rows a, b, all bytes behind them, and all numbers n, m: rows stand as their bytes do, numbers as theirs, whatever stands behind; no row's bytes begin another one's: the call returns true, and the arguments read as they did (the library's variables start as the program's text lays them: the card ties them).
-/
import Derived.Test.YthaekjolbjmjfaaDoorRows
import Derived.Test.YthaekjolbjmjfaaDoorCards
import Derived.Test.YthaekjolbjmjfaaDoorTie
import Derived.Test.YthaekjolbjmjfaaDoorKOrdL
import Derived.Test.YthaekjolbjmjfaaDoorKLaid
import Derived.Test.YthaekjolbjmjfaaDoorOpens2
import Derived.WalkKit
import Derived.ProofKit
import Derived.OpenShut
import Derived.SizedLaws
import Derived.ChangeMaps5
import Derived.SevenTiedAt
namespace Go.Proofs.YthaekjolbjmjfaaDoor.keyOrder
open Go.ChangeShapes Go.WideShapes Go.ChangeAt Go.RowKit
set_option linter.unusedVariables false

theorem own : ownKnob Tryd.prog.godebug = none := by kernel_rfl
theorem laidOut : laidOutB Tryd.prog = true := by kernel_rfl

theorem i64b {x : Int} (h : (Lit.int .i64 x).wf = true) : -9223372036854775808 ≤ x ∧ x ≤ 9223372036854775807 := by
  simp [Lit.wf, show IntKind.i64.min = -9223372036854775808 from rfl, show IntKind.i64.max = 9223372036854775807 from rfl] at h
  exact h
theorem walk (W : World) (L : LaidW W) (a1 : Option Addr) (n1 c1 : Nat) (l1 : List UInt8) (h1 : l1.length = n1) (z1 : n1 < 140737488355328) (b1 : BytesAt W a1 l1) (_ : a1 = none → c1 = 0) (a2 : Option Addr) (n2 c2 : Nat) (l2 : List UInt8) (h2 : l2.length = n2) (z2 : n2 < 140737488355328) (b2 : BytesAt W a2 l2) (_ : a2 = none → c2 = 0)
    (a3 : Option Addr) (n3 c3 : Nat) (l3 : List UInt8) (h3 : l3.length = n3) (z3 : n3 < 140737488355328) (b3 : BytesAt W a3 l3) (_ : a3 = none → c3 = 0) (a4 : Option Addr) (n4 c4 : Nat) (l4 : List UInt8) (h4 : l4.length = n4) (z4 : n4 < 140737488355328) (b4 : BytesAt W a4 l4) (_ : a4 = none → c4 = 0)
    (x : Int) (hx : (Lit.int .i64 x).wf = true) (y : Int) (hy : (Lit.int .i64 y).wf = true) :
    Calls Tryd.prog 8 #[.slice a1 n1 c1, .slice a2 n2 c2, .slice a3 n3 c3, .slice a4 n4 c4, .int .i64 x, .int .i64 y] W fun e w' => e = .returned (.bool true) ∧ Fr [] W w' := by
  have hx2 := i64b hx
  have hy2 := i64b hy
  by_cases h : n1 + n2 + n3 + n4 ≤ 20000
  · exact keyOrder_law W L a1 a2 a3 a4 n1 n2 n3 n4 c1 c2 c3 c4 l1 l2 l3 l4 h1 h2 h3 h4 b1 b2 b3 b4 h x y (x + 9223372036854775808).toNat (y + 9223372036854775808).toNat (by omega) (by omega) (by omega) (by omega)
  · exact keyOrder_long W L a1 a2 a3 a4 n1 n2 n3 n4 c1 c2 c3 c4 z1 z2 z3 z4 (by omega) x y

set_option maxRecDepth 100000 in
theorem lifted (os : Os) (started : os.Started) (H : Type) (enc : TypeId × Value → H) :
    ReturnsInHanded {} Tryd.checked os 8 .any (fun w args => (Rows.keyOrderSpec.pre enc Tryd.prog Tryd.f8 [] false w args ∧ laidMetH Tryd.prog laidL w) ∧ sizedMet enc Tryd.prog Tryd.f8 (OpenSpec.ofChange Rows.keyOrderSpec) false w args)
      (Rows.keyOrderSpec.post enc Tryd.prog Tryd.f8 false true false false) := by
  refine returnsInHanded_of_change_and (C := Tryd.checked) (X := fun w _ => laidMetH Tryd.prog laidL w) (fun _ _ _ hh h => h.of_heap hh) own started (by kernel_rfl) Tryd.func8
    (ChangeSpec.witness_shaped (enc := enc) (C := Tryd.checked) (os := os) (X := fun w _ => laidMetH Tryd.prog laidL w) false (World.doorLaid Tryd.prog 400 os) #[.slice none 0 0, .slice none 0 0, .slice none 0 0, .slice none 0 0, .int .i64 0, .int .i64 0] 8 rfl (World.shaped_of_RefB (by kernel_rfl) (by kernel_rfl)) (by kernel_rfl) (by kernel_rfl) (by kernel_rfl) (door_met os _)) ?_
  intro W base args ds gs before hval0 hW hcnd hz0 hL _
  have hval : ∀ (j : Nat) t v, Tryd.f8.params[j]? = some t → args[j]? = some v → Value.okWide Tryd.prog W .any base t v := hval0
  have hW' := hW
  obtain ⟨p, q, hA0, hV, rfl, hfz, hnd⟩ := hW
  have hA : DataW.TrodAll enc Tryd.prog W 0 (fun _ => true) true Tryd.f8.params.toList args.toList ds p := hA0
  have hz1 : (DataW.weightsEach Tryd.prog (Tryd.f8.params.toList ++ Rows.keyOrderSpec.plain.varTypes Tryd.prog) (ds ++ gs)).all (· ≤ reachBytes) = true := hz0
  rw [Tryd.params8] at hA hval hz1
  obtain ⟨v0, vs0, d0, ds0, p0, q0, hargs, rfl, rfl, h0, r0⟩ := trodAll_cons hA
  obtain ⟨v1, vs1, d1, ds1, p1, q1, rfl, rfl, rfl, h1, r1⟩ := trodAll_cons r0
  obtain ⟨v2, vs2, d2, ds2, p2, q2, rfl, rfl, rfl, h2, r2⟩ := trodAll_cons r1
  obtain ⟨v3, vs3, d3, ds3, p3, q3, rfl, rfl, rfl, h3, r3⟩ := trodAll_cons r2
  obtain ⟨v4, vs4, d4, ds4, p4, q4, rfl, rfl, rfl, h4, r4⟩ := trodAll_cons r3
  obtain ⟨v5, vs5, d5, ds5, p5, q5, rfl, rfl, rfl, h5, r5⟩ := trodAll_cons r4
  obtain ⟨rfl, rfl, rfl⟩ := trodAll_nil r5
  obtain rfl : args = #[v0, v1, v2, v3, v4, v5] := by cases args; simp_all
  obtain ⟨rfl, rfl⟩ := trodVars_none hV
  obtain ⟨a0, len0, cap0, rfl⟩ := okWide_slice Tryd.underlying22 (hval 0 22 v0 rfl rfl)
  have k0 := h0
  have lt0 : ∀ x ∈ p0, x.block < W.heap.size := by obtain ⟨m, hm⟩ := k0; exact DataW.trod_lt m _ _ _ hm
  obtain ⟨L0, hL0, hs0, hB0, hc0⟩ : ∃ L : List UInt8, L.length = len0 ∧ len0 < 140737488355328 ∧ BytesAt W a0 L ∧ (a0 = none → cap0 = 0) := by
    obtain ⟨fuel, hf⟩ := h0
    obtain ⟨ad, len, cap, L, hcs, hl, hc, hm, hb, hcz, hx⟩ := bytes_open2 hf
    simp [Value.cells] at hcs
    obtain ⟨rfl, rfl, rfl⟩ := hcs
    refine ⟨L, hl, ?_, hb, hcz⟩
    rcases hx with h0 | ⟨elems, sp, he, hlen⟩
    · omega
    · have he' : d0 = .slice elems sp := he
      have h5 := sized_slice hz1 (j := 0) (t := 22) (e := 5) (elems := elems) (spare := sp) rfl (by rw [he']; rfl) Tryd.underlying22
      have h6 := reachBytes_lt
      rw [Tryd.bytes5] at h5
      omega
  obtain ⟨a1, len1, cap1, rfl⟩ := okWide_slice Tryd.underlying22 (hval 1 22 v1 rfl rfl)
  have k1 := h1
  have lt1 : ∀ x ∈ p1, x.block < W.heap.size := by obtain ⟨m, hm⟩ := k1; exact DataW.trod_lt m _ _ _ hm
  obtain ⟨L1, hL1, hs1, hB1, hc1⟩ : ∃ L : List UInt8, L.length = len1 ∧ len1 < 140737488355328 ∧ BytesAt W a1 L ∧ (a1 = none → cap1 = 0) := by
    obtain ⟨fuel, hf⟩ := h1
    obtain ⟨ad, len, cap, L, hcs, hl, hc, hm, hb, hcz, hx⟩ := bytes_open2 hf
    simp [Value.cells] at hcs
    obtain ⟨rfl, rfl, rfl⟩ := hcs
    refine ⟨L, hl, ?_, hb, hcz⟩
    rcases hx with h0 | ⟨elems, sp, he, hlen⟩
    · omega
    · have he' : d1 = .slice elems sp := he
      have h5 := sized_slice hz1 (j := 1) (t := 22) (e := 5) (elems := elems) (spare := sp) rfl (by rw [he']; rfl) Tryd.underlying22
      have h6 := reachBytes_lt
      rw [Tryd.bytes5] at h5
      omega
  obtain ⟨a2, len2, cap2, rfl⟩ := okWide_slice Tryd.underlying22 (hval 2 22 v2 rfl rfl)
  have k2 := h2
  have lt2 : ∀ x ∈ p2, x.block < W.heap.size := by obtain ⟨m, hm⟩ := k2; exact DataW.trod_lt m _ _ _ hm
  obtain ⟨L2, hL2, hs2, hB2, hc2⟩ : ∃ L : List UInt8, L.length = len2 ∧ len2 < 140737488355328 ∧ BytesAt W a2 L ∧ (a2 = none → cap2 = 0) := by
    obtain ⟨fuel, hf⟩ := h2
    obtain ⟨ad, len, cap, L, hcs, hl, hc, hm, hb, hcz, hx⟩ := bytes_open2 hf
    simp [Value.cells] at hcs
    obtain ⟨rfl, rfl, rfl⟩ := hcs
    refine ⟨L, hl, ?_, hb, hcz⟩
    rcases hx with h0 | ⟨elems, sp, he, hlen⟩
    · omega
    · have he' : d2 = .slice elems sp := he
      have h5 := sized_slice hz1 (j := 2) (t := 22) (e := 5) (elems := elems) (spare := sp) rfl (by rw [he']; rfl) Tryd.underlying22
      have h6 := reachBytes_lt
      rw [Tryd.bytes5] at h5
      omega
  obtain ⟨a3, len3, cap3, rfl⟩ := okWide_slice Tryd.underlying22 (hval 3 22 v3 rfl rfl)
  have k3 := h3
  have lt3 : ∀ x ∈ p3, x.block < W.heap.size := by obtain ⟨m, hm⟩ := k3; exact DataW.trod_lt m _ _ _ hm
  obtain ⟨L3, hL3, hs3, hB3, hc3⟩ : ∃ L : List UInt8, L.length = len3 ∧ len3 < 140737488355328 ∧ BytesAt W a3 L ∧ (a3 = none → cap3 = 0) := by
    obtain ⟨fuel, hf⟩ := h3
    obtain ⟨ad, len, cap, L, hcs, hl, hc, hm, hb, hcz, hx⟩ := bytes_open2 hf
    simp [Value.cells] at hcs
    obtain ⟨rfl, rfl, rfl⟩ := hcs
    refine ⟨L, hl, ?_, hb, hcz⟩
    rcases hx with h0 | ⟨elems, sp, he, hlen⟩
    · omega
    · have he' : d3 = .slice elems sp := he
      have h5 := sized_slice hz1 (j := 3) (t := 22) (e := 5) (elems := elems) (spare := sp) rfl (by rw [he']; rfl) Tryd.underlying22
      have h6 := reachBytes_lt
      rw [Tryd.bytes5] at h5
      omega
  obtain ⟨a4, rfl, rfl, rfl, w4⟩ := open_int Tryd.underlying2 (hval 4 2 v4 rfl rfl) h4
  obtain ⟨a5, rfl, rfl, rfl, w5⟩ := open_int Tryd.underlying2 (hval 5 2 v5 rfl rfl) h5
  have LW := of_laid hL
  clear hA0 hval0 hz0 hz1
  refine (walk W LW a0 len0 cap0 L0 hL0 hs0 hB0 hc0 a1 len1 cap1 L1 hL1 hs1 hB1 hc1 a2 len2 cap2 L2 hL2 hs2 hB2 hc2 a3 len3 cap3 L3 hL3 hs3 hB3 hc3 a4 w4 a5 w5).mono fun e W' ⟨he, fr⟩ => ?_
  have bel : Below W.heap.size W W' := fr.below (Nat.le_refl _) (fun _ h => nomatch h)
  subst he
  exact ⟨_, rfl, _, _, _, [], _, [], hW', trodAll_mk1 (shut_bool Tryd.underlying4 _), (trodAll_cons_mk (Below.trod laidOut (by kernel_rfl) (of_decide_eq_true (by kernel_rfl)) k0 bel lt0) (trodAll_cons_mk (Below.trod laidOut (by kernel_rfl) (of_decide_eq_true (by kernel_rfl)) k1 bel lt1) (trodAll_cons_mk (Below.trod laidOut (by kernel_rfl) (of_decide_eq_true (by kernel_rfl)) k2 bel lt2) (trodAll_cons_mk (Below.trod laidOut (by kernel_rfl) (of_decide_eq_true (by kernel_rfl)) k3 bel lt3) (trodAll_cons_mk (shut_int Tryd.underlying2 w4) (trodAll_cons_mk (shut_int Tryd.underlying2 w5) trodAll_mk0)))))), rfl, bel.frame _, fun h => by cases h⟩

theorem over : Rows.keyOrderRow.holds Tryd.pinned (OpenSpec.ofChange Rows.keyOrderSpec) :=
  OpenClaim.holds_of_wide 8 Tryd.f8 rfl rfl rfl rfl rfl rfl rfl ⟨rfl, rfl, rfl, rfl, rfl⟩ rfl rfl rfl rfl rfl (by kernel_rfl) Tryd.func8 (by kernel_rfl)
    (of_decide_eq_true (by kernel_rfl)) (by unfold Func.isWrapper; first | (rw [if_pos (by decide +kernel)]; kernel_rfl) | (rw [if_neg (by decide +kernel)]; exact ⟨rfl, rfl⟩))
    (fun os started H enc _ => lifted os started H enc)

theorem proved : Rows.KeyOrderCardSaid :=
  Claim7.holds_tied_plain_at .later [] [.data, .data, .data, .sentinel, .sentinel] true (true, "76b66fca8b5adb2fb9288702dcc06bdafa6cd8fdd6eaba3248d45fb801336805") true
    over (fun _ h => by cases h) (by kernel_rfl) (fun _ h => by cases h) keyOrder_row_tie rfl ⟨rfl, rfl⟩ (by kernel_rfl) rfl
    (fun f fn hf hfn => by
      obtain rfl : f = 8 := Option.some.inj ((show Tryd.prog.funcNamed "parchment/parchmentlaw04.KeyOrder" = some 8 by kernel_rfl).symm.trans hf) |>.symm
      obtain rfl : fn = Tryd.f8 := (Option.some.inj (Tryd.func8.symm.trans hfn)).symm
      exact ⟨by kernel_rfl, fun j t ht => by
        rw [Tryd.params8] at ht
        have hm : t ∈ ([22, 22, 22, 22, 2, 2] : List TypeId) := by simpa using Array.mem_of_getElem? ht
        have hall : (([22, 22, 22, 22, 2, 2] : List TypeId).all fun u => !Tryd.prog.wantsStandIn u) = true := by kernel_rfl
        exact (show Tryd.prog.wantsStandIn t = false by simpa using List.all_eq_true.1 hall t hm)⟩)
    (by kernel_rfl)
end Go.Proofs.YthaekjolbjmjfaaDoor.keyOrder

namespace Go.Proofs.YthaekjolbjmjfaaDoor
theorem keyOrder_holds : Rows.KeyOrderCardSaid := keyOrder.proved
end Go.Proofs.YthaekjolbjmjfaaDoor
#print axioms Go.Proofs.YthaekjolbjmjfaaDoor.keyOrder_holds
