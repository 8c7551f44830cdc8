/-
  siblings.
-/
import Derived.Test.YtdfgmdddnehocabGreatDoorTStr
import Derived.Test.YtdfgmdddnehocabGreatDoorTGoM
import Derived.RangeFuncNested
import Derived.RangeFuncBound
import Derived.RangeFuncCalls
import Derived.RangeFuncLeaves
import Derived.Shelf.Abstract
import Derived.Shelf.RegionOpen
import Derived.WalkKit
import Derived.OwnWalkIn
import Derived.TacticsInMore
import Derived.LoopNIn
import Derived.LoopIn
import Derived.Maps.AppendAt
import Derived.Sort.BigQuietIn
namespace Go.Proofs.YtdfgmdddnehocabGreatDoor
open Go.RowKit Go.Maps Go.Lib Go.Shelf

attribute [local go_sem] Oper.semAt_some

/-- These blocks lie as they lay. -/
def KeepL (L : List Nat) (W W' : World) : Prop := ∀ g ∈ L, W'.heap[g]? = W.heap[g]?
theorem KeepL.refl (L : List Nat) (W : World) : KeepL L W W := fun _ _ => rfl
theorem KeepL.trans {L : List Nat} {A B C : World} (h : KeepL L A B) (k : KeepL L B C) : KeepL L A C := fun g hg => (k g hg).trans (h g hg)
theorem keepL_b {L : List Nat} {w : World} (hL : ∀ g ∈ L, g < w.heap.size) (W : World) (l : Nat) (o o' : Obj) (hl : w.heap.size ≤ l) (_ : W.heap[l]? = some o) (_ : o.isCells = false) (_ : o.isWalk = false) : KeepL L W (W.putObj l o') := fun g hg =>
  World.putObj_heap_other (by have := hL g hg; omega)
theorem KeepL.cell {L : List Nat} {W W' : World} (h : KeepL L W W') {g i : Nat} (hg : g ∈ L) : W'.cell? ⟨g, i, none⟩ = W.cell? ⟨g, i, none⟩ := World.cell?_of_block (h g hg)
theorem KeepL.nodes {L : List Nat} {W W' : World} (h : KeepL L W W') {b off : Nat} {t : List Nd} (hb : b ∈ L) (hN : NodesIn W b off t) : NodesIn W' b off t := fun i hi =>
  ⟨(h.cell hb).trans (hN i hi).1, (h.cell hb).trans (hN i hi).2.1, (h.cell hb).trans (hN i hi).2.2.1, (h.cell hb).trans (hN i hi).2.2.2⟩
theorem keepL_below {L : List Nat} {n₀ : Nat} {W W' : World} (hL : ∀ g ∈ L, g < n₀) (h : Below n₀ W W') : KeepL L W W' := fun g hg => h.block g (hL g hg)

theorem abides_drewN {β : Type} {B : Nat} {J : β → World → Prop} (hJ : AbidesFrom B J) {s : β} {W : World} {k : Nat} (h : J s W) : J s (W.drewN k) :=
  hJ s W _ none h ⟨rfl, rfl, rfl, Nat.le_refl _, fun _ _ _ => rfl⟩ (fun _ e => nomatch e)
theorem kidsTo_len (t : List Nd) (k : Int) (b : Nat) : (kidsTo t k b).length ≤ b := by
  unfold kidsTo
  refine Nat.le_trans (List.length_filter_le _ _) ?_
  rw [List.length_range']
  omega

set_option maxRecDepth 100000 in
set_option maxHeartbeats 4000000 in
theorem kids1_in (n : Nat) (hn : 1 ≤ n) (l Ba Bt b off c : Nat) (t : List Nd) (hl : t.length ≤ 16384) (k : Int) (hk0 : -1 ≤ k) (hk : k < t.length) (J Jx : List Nat → World → Prop)
    (hY : ∀ pre x W, J pre W → pre.length < t.length → YieldAt Fence.wide (n - 1) Tryz.prog l #[encI x] W fun e W' =>
      (e = .returned (.bool true) ∧ J (pre ++ [x]) W' ∧ KeepL [Ba, Bt, b] W W') ∨ (e = .returned (.bool false) ∧ Jx (pre ++ [x]) W'))
    (W : World) (hJ : AbidesFrom W.heap.size J) (hBa : W.cell? ⟨Ba, 0, none⟩ = some (.int .i64 k)) (hBt : W.cell? ⟨Bt, 0, none⟩ = some (.slice (some ⟨b, off, none⟩) t.length c)) (hN : NodesIn W b off t) (h0 : J [] W) :
    CallsIn Fence.wide n Tryz.prog 59 #[.func (.yield l) #[] #[], .pointer (some ⟨Ba, 0, none⟩), .pointer (some ⟨Bt, 0, none⟩)] W fun e W' => (∃ v, e = .returned v) ∧
      ((∃ ys, ys = kidsL t k ∧ J ys W') ∨ (∃ pre, True ∧ Jx pre W')) := by
  have E := endOf_is (t := t) (k := k) hk0 hk
  unfold kidsL
  obtain ⟨e, he⟩ : ∃ e, endOf t k = e := ⟨_, rfl⟩
  rw [he] at E ⊢
  have HE := Hid.mk E
  have HN := Hid.mk hN
  have HY := Hid.mk hY
  have HBa := Hid.mk hBa
  have HBt := Hid.mk hBt
  have hgt := E.gt
  have hle := E.le
  clear he hN E hY
  refine callsIn_of_wp Tryz.func59 rfl trivial ?_ rfl
  simp only [Tryz.ntmps59, List.size_toArray, List.length_cons, List.length_nil, Nat.reduceAdd, Nat.reduceSub, Array.replicate_succ, Array.replicate_zero, List.push_toArray, List.append_toArray, List.nil_append, List.cons_append]
  gi_wp2
  gi_loopw [4] (fun s4 wr => ∃ i : Nat, s4 = .int .i64 (i : Int) ∧ k < (i : Int) ∧ i ≤ e ∧ Hid (J (kidsTo t k i) wr) ∧ Hid (KeepL [Ba, Bt, b] W wr)) (fun s4 _ => t.length - (RowKit.intOf s4).toNat)
  case atStart => exact ⟨(k + 1).toNat, by congr 1; omega, by omega, by omega, (by show J (kidsTo t k _) _; unfold kidsTo; rw [Nat.sub_self]; exact h0), KeepL.refl _ _⟩
  case round =>
    obtain ⟨i, rfl, hki, hie, hJs, hkp⟩ := hrel
    have qa : wr.cell? ⟨Ba, 0, none⟩ = some (.int .i64 k) := (hkp.out.cell (by simp)).trans HBa.out
    have qt : wr.cell? ⟨Bt, 0, none⟩ = some (.slice (some ⟨b, off, none⟩) t.length c) := (hkp.out.cell (by simp)).trans HBt.out
    have HNr := Hid.mk (hkp.out.nodes (b := b) (by simp) HN.out)
    clear hBa hBt
    have hi0 : (0 : Int) ≤ (i : Int) := by omega
    by_cases hlt : i < e
    · have hp : k ≤ par t i := HE.out.all i (by omega) hlt
      have hil : (i : Int) < (t.length : Int) := by omega
      obtain ⟨c0, c1, c2, c3⟩ := HNr.out i (by omega)
      have hst := kids_step (t := t) (k := k) (b := i) (by omega)
      by_cases hpk : par t i = k
      · by_cases h3 : knd t i = 3
        · rw [if_neg (fun x => x.2 h3)] at hst
          have HST := Hid.mk hst
          rw [h3] at c0
          rw [hpk] at c3 hp
          clear c1 c2 hst h3 hpk
          gi_wp2
          gi_big_quiet_th (fail)
          gi_wp2
          refine wpIn_region_quiet_lit rfl (by kernel_rfl) (by kernel_rfl) ?_
          repeat (gi_big_quiet_step (fail))
          refine BigFrame.wpQuietIn_skip (fun _ _ _ _ => trivial) rfl ?_
          go_frame
          repeat (gi_big_quiet_step (fail))
          refine wpQuietIn_nil ?_
          intro _ hw'
          obtain ⟨nq2, hw''⟩ := hw'
          subst hw''
          gi_wp2
          go_roundw
          case rel => exact ⟨i + 1, by go_num, by omega, by omega, by show J (kidsTo t k (i + 1)) _; rw [HST.out]; exact abides_drewN hJ hJs.out, fun g hg => hkp.out g hg⟩
          case measure => simp [RowKit.intOf]; omega
        · rw [if_pos ⟨hpk, h3⟩] at hst
          have HST := Hid.mk hst
          have hkb : ((((knd t i : Nat)) : Int) != 3) = true := by rw [bne_iff_ne]; omega
          generalize knd t i = K at c0 hkb
          rw [hpk] at c3 hp
          clear c1 c2 hst h3 hpk
          gi_wp2
          gi_big_quiet_th (fail)
          gi_wp2
          obtain ⟨fn, tmps, assign, body, hy, hR⟩ := HY.out (kidsTo t k i) i (wr.drewN (nq + 1)) (abides_drewN hJ hJs.out) (by have := kidsTo_len t k i; omega)
          have hR2 := RoundIn.mono hR (R' := fun e' W' => ∃ bb : Bool, e' = .returned (.bool bb) ∧ Hid ((bb = true ∧ J (kidsTo t k i ++ [i]) W' ∧ KeepL [Ba, Bt, b] (wr.drewN (nq + 1)) W') ∨ (bb = false ∧ Jx (kidsTo t k i ++ [i]) W'))) (by
            rintro e' W' (⟨h1, h2, h3⟩ | ⟨h1, h2⟩)
            · exact ⟨true, h1, Or.inl ⟨rfl, h2, h3⟩⟩
            · exact ⟨false, h1, Or.inr ⟨rfl, h2⟩⟩)
          clear hR
          gi_region_with (refine RoundIn.mono hR2 ?_; rintro e' W3 ⟨bb, rfl, hor⟩)
          all_goals
            (clear hR2 hy
             cases bb with
             | true =>
               rcases hor.out with ⟨_, hJ3, hk3⟩ | ⟨h, _⟩
               · clear hor
                 gi_wp2
                 go_roundw
                 case rel => exact ⟨i + 1, by go_num, by omega, by omega, by show J (kidsTo t k (i + 1)) _; rw [HST.out]; exact hJ3, fun g hg => (hk3 g hg).trans (hkp.out g hg)⟩
                 case measure => simp [RowKit.intOf]; omega
               · cases h
             | false =>
               rcases hor.out with ⟨h, _⟩ | ⟨_, hJx3⟩
               · cases h
               · clear hor
                 gi_wp2
                 refine bodyPost_ret (results_none rfl _ _ _) rfl ?_
                 exact ⟨⟨_, rfl⟩, .inr ⟨_, hJx3⟩⟩)
      · rw [if_neg (fun x => hpk x.1)] at hst
        have HST := Hid.mk hst
        have hpb : (par t i == k) = false := by rw [beq_eq_false_iff_ne]; exact hpk
        generalize par t i = p at c3 hp hpb
        clear c0 c1 c2 hst hpk
        gi_wp2
        gi_big_quiet_th (fail)
        gi_wp2
        refine wpIn_region_quiet_lit rfl (by kernel_rfl) (by kernel_rfl) ?_
        repeat (gi_big_quiet_step (fail))
        refine BigFrame.wpQuietIn_skip (fun _ _ _ _ => trivial) rfl ?_
        go_frame
        repeat (gi_big_quiet_step (fail))
        refine wpQuietIn_nil ?_
        intro _ hw'
        obtain ⟨nq2, hw''⟩ := hw'
        subst hw''
        gi_wp2
        go_roundw
        case rel => exact ⟨i + 1, by go_num, by omega, by omega, by show J (kidsTo t k (i + 1)) _; rw [HST.out]; exact abides_drewN hJ hJs.out, fun g hg => hkp.out g hg⟩
        case measure => simp [RowKit.intOf]; omega
    · obtain rfl : i = e := by omega
      by_cases hil : i < t.length
      · have hp : par t i < k := HE.out.stop hil
        have hil' : (i : Int) < (t.length : Int) := by omega
        obtain ⟨c0, c1, c2, c3⟩ := HNr.out i (by omega)
        have hp' : ¬ k ≤ par t i := by omega
        generalize par t i = p at c3 hp hp'
        clear c0 c1 c2
        gi_wp2
        gi_big_quiet_th (fail)
        gi_wp2
        go_end0
        exact ⟨⟨_, rfl⟩, .inl ⟨_, rfl, abides_drewN hJ hJs.out⟩⟩
      · have hil' : decide ((i : Int) < (t.length : Int)) = false := decide_eq_false (by omega)
        gi_wp2
        gi_big_quiet_th (fail)
        gi_wp2
        go_end0
        exact ⟨⟨_, rfl⟩, .inl ⟨_, rfl, abides_drewN hJ hJs.out⟩⟩
end Go.Proofs.YtdfgmdddnehocabGreatDoor

namespace Go.Proofs.YtdfgmdddnehocabGreatDoor
open Go.RowKit Go.Maps Go.Lib Go.Shelf
attribute [local go_sem] Oper.semAt_some

def attrsL (k e : Nat) : List Nat := List.range' (k + 1) (e - (k + 1))
theorem attrs_step {k i : Nat} (h : k < i) : attrsL k (i + 1) = attrsL k i ++ [i] := by
  unfold attrsL
  rw [show i + 1 - (k + 1) = (i - (k + 1)) + 1 by omega, List.range'_concat, show k + 1 + 1 * (i - (k + 1)) = i by omega]
theorem attrs_len (k e : Nat) : (attrsL k e).length = e - (k + 1) := by
  unfold attrsL
  rw [List.length_range']

set_option maxRecDepth 100000 in
set_option maxHeartbeats 4000000 in
theorem attrs1_in (n : Nat) (hn : 1 ≤ n) (l Ba Bt b off c : Nat) (t : List Nd) (hl : t.length ≤ 16384) (k e : Nat) (A : AttrIs t k e) (J Jx : List Nat → World → Prop)
    (hY : ∀ pre x W, J pre W → pre.length < t.length → YieldAt Fence.wide (n - 1) Tryz.prog l #[encI x] W fun e W' =>
      (e = .returned (.bool true) ∧ J (pre ++ [x]) W' ∧ KeepL [Ba, Bt, b] W W') ∨ (e = .returned (.bool false) ∧ Jx (pre ++ [x]) W'))
    (W : World) (hJ : AbidesFrom W.heap.size J) (hBa : W.cell? ⟨Ba, 0, none⟩ = some (.int .i64 (k : Int))) (hBt : W.cell? ⟨Bt, 0, none⟩ = some (.slice (some ⟨b, off, none⟩) t.length c)) (hN : NodesIn W b off t) (h0 : J [] W) :
    CallsIn Fence.wide n Tryz.prog 60 #[.func (.yield l) #[] #[], .pointer (some ⟨Ba, 0, none⟩), .pointer (some ⟨Bt, 0, none⟩)] W fun e' W' => (∃ v, e' = .returned v) ∧
      ((∃ ys, ys = attrsL k e ∧ J ys W') ∨ (∃ pre, True ∧ Jx pre W')) := by
  have HE := Hid.mk A
  have HN := Hid.mk hN
  have HY := Hid.mk hY
  have HBa := Hid.mk hBa
  have HBt := Hid.mk hBt
  have hgt := A.gt
  have hle := A.le
  clear hN A hY
  refine callsIn_of_wp Tryz.func60 rfl trivial ?_ rfl
  simp only [Tryz.ntmps60, List.size_toArray, List.length_cons, List.length_nil, Nat.reduceAdd, Nat.reduceSub, Array.replicate_succ, Array.replicate_zero, List.push_toArray, List.append_toArray, List.nil_append, List.cons_append]
  gi_wp2
  gi_loopw [4] (fun s4 wr => ∃ i : Nat, s4 = .int .i64 (i : Int) ∧ k < i ∧ i ≤ e ∧ Hid (J (attrsL k i) wr) ∧ Hid (KeepL [Ba, Bt, b] W wr)) (fun s4 _ => t.length - (RowKit.intOf s4).toNat)
  case atStart => exact ⟨k + 1, by go_num, by omega, by omega, (by show J (attrsL k _) _; unfold attrsL; rw [Nat.sub_self]; exact h0), KeepL.refl _ _⟩
  case round =>
    obtain ⟨i, rfl, hki, hie, hJs, hkp⟩ := hrel
    have qa : wr.cell? ⟨Ba, 0, none⟩ = some (.int .i64 (k : Int)) := (hkp.out.cell (by simp)).trans HBa.out
    have qt : wr.cell? ⟨Bt, 0, none⟩ = some (.slice (some ⟨b, off, none⟩) t.length c) := (hkp.out.cell (by simp)).trans HBt.out
    have HNr := Hid.mk (hkp.out.nodes (b := b) (by simp) HN.out)
    clear hBa hBt
    have hi0 : (0 : Int) ≤ (i : Int) := by omega
    by_cases hlt : i < e
    · obtain ⟨hp, h3⟩ := HE.out.all i (by omega) hlt
      have hil : (i : Int) < (t.length : Int) := by omega
      obtain ⟨c0, c1, c2, c3⟩ := HNr.out i (by omega)
      rw [h3] at c0
      rw [hp] at c3
      have HST := Hid.mk (attrs_step (k := k) (i := i) (by omega))
      clear c1 c2 h3 hp
      gi_wp2
      gi_big_quiet_th (fail)
      obtain ⟨fn, tmps, assign, body, hy, hR⟩ := HY.out (attrsL k i) i (wr.drewN nq) (abides_drewN hJ hJs.out) (by rw [attrs_len]; omega)
      gi_wp2
      refine hR.mono ?_
      rintro e' W3 (⟨rfl, hJ3, hk3⟩ | ⟨rfl, hJx3⟩)
      · gi_wp2
        go_roundw
        case rel => exact ⟨i + 1, by go_num, by omega, by omega, by show J (attrsL k (i + 1)) _; rw [HST.out]; exact hJ3, fun g hg => (hk3 g hg).trans (hkp.out g hg)⟩
        case measure => simp [RowKit.intOf]; omega
      · gi_wp2
        refine bodyPost_ret (results_none rfl _ _ _) rfl ?_
        exact ⟨⟨_, rfl⟩, .inr ⟨_, trivial, hJx3⟩⟩
    · obtain rfl : i = e := by omega
      by_cases hil : i < t.length
      · have hst := HE.out.stop hil
        have hil' : (i : Int) < (t.length : Int) := by omega
        obtain ⟨c0, c1, c2, c3⟩ := HNr.out i (by omega)
        by_cases hp : par t i = (k : Int)
        · have h3 : ((((knd t i : Nat)) : Int) == 3) = false := by
            rw [beq_eq_false_iff_ne]
            intro h
            exact hst ⟨hp, by omega⟩
          rw [hp] at c3
          generalize knd t i = K at c0 h3
          clear c1 c2 hst hp
          gi_wp2
          gi_big_quiet_th (fail)
          gi_wp2
          go_end0
          exact ⟨⟨_, rfl⟩, .inl ⟨_, rfl, abides_drewN hJ hJs.out⟩⟩
        · have hpb : (par t i == (k : Int)) = false := by rw [beq_eq_false_iff_ne]; exact hp
          generalize par t i = p at c3 hpb
          clear c0 c1 c2 hst hp
          gi_wp2
          gi_big_quiet_th (fail)
          gi_wp2
          go_end0
          exact ⟨⟨_, rfl⟩, .inl ⟨_, rfl, abides_drewN hJ hJs.out⟩⟩
      · have hil' : decide ((i : Int) < (t.length : Int)) = false := decide_eq_false (by omega)
        gi_wp2
        gi_big_quiet_th (fail)
        gi_wp2
        go_end0
        exact ⟨⟨_, rfl⟩, .inl ⟨_, rfl, abides_drewN hJ hJs.out⟩⟩

/-! ### what makes them -/
set_option maxRecDepth 100000 in
set_option maxHeartbeats 1000000 in
theorem kids_mk (w : World) (ad : Option Addr) (m c : Nat) (k : Int) :
    Calls Tryz.prog 26 #[.slice ad m c, .int .i64 k] w fun e w' => ∃ Ba Bt, e = .returned (.func (.func 59) #[] #[.pointer (some ⟨Ba, 0, none⟩), .pointer (some ⟨Bt, 0, none⟩)]) ∧ w'.cell? ⟨Ba, 0, none⟩ = some (.int .i64 k) ∧ w'.cell? ⟨Bt, 0, none⟩ = some (.slice ad m c) ∧ Fr [] w w' ∧ w.heap.size ≤ Ba ∧ w.heap.size ≤ Bt ∧ Ba < w'.heap.size ∧ Bt < w'.heap.size := by
  go_enter Tryz.func26, Tryz.ntmps26
  go_wp2
  go_ret
  have h1 := Boxed.new (w.alloc (.cells #[.slice ad m c] 22)) 3 (.int .i64 k)
  have h2 := (Boxed.new w 22 (.slice ad m c)).alloc (.cells #[.int .i64 k] 3)
  rw [World.size_alloc] at h1
  exact ⟨w.heap.size + 1, w.heap.size, rfl, h1.cell, h2.cell, ((Fr.refl _ _).alloc _).alloc _, by omega, by omega, h1.lt, h2.lt⟩
set_option maxRecDepth 100000 in
set_option maxHeartbeats 1000000 in
theorem attributes_mk (w : World) (ad : Option Addr) (m c : Nat) (k : Int) :
    Calls Tryz.prog 27 #[.slice ad m c, .int .i64 k] w fun e w' => ∃ Ba Bt, e = .returned (.func (.func 60) #[] #[.pointer (some ⟨Ba, 0, none⟩), .pointer (some ⟨Bt, 0, none⟩)]) ∧ w'.cell? ⟨Ba, 0, none⟩ = some (.int .i64 k) ∧ w'.cell? ⟨Bt, 0, none⟩ = some (.slice ad m c) ∧ Fr [] w w' ∧ w.heap.size ≤ Ba ∧ w.heap.size ≤ Bt ∧ Ba < w'.heap.size ∧ Bt < w'.heap.size := by
  go_enter Tryz.func27, Tryz.ntmps27
  go_wp2
  go_ret
  have h1 := Boxed.new (w.alloc (.cells #[.slice ad m c] 22)) 3 (.int .i64 k)
  have h2 := (Boxed.new w 22 (.slice ad m c)).alloc (.cells #[.int .i64 k] 3)
  rw [World.size_alloc] at h1
  exact ⟨w.heap.size + 1, w.heap.size, rfl, h1.cell, h2.cell, ((Fr.refl _ _).alloc _).alloc _, by omega, by omega, h1.lt, h2.lt⟩

theorem enter_kids : ∀ args w, (callFunc 59 args).run Tryz.prog w = .ok (.enter 59 args) w := enters_of Tryz.func59 (by kernel_rfl) rfl
theorem enter_attrs : ∀ args w, (callFunc 60 args).run Tryz.prog w = .ok (.enter 60 args) w := enters_of Tryz.func60 (by kernel_rfl) rfl
theorem kids_stops (n : Nat) (hn : 1 ≤ n) (Ba Bt b off c : Nat) (t : List Nd) (hl : t.length ≤ 16384) (k : Int) (hk0 : -1 ≤ k) (hk : k < t.length) (w : World) (hBa : w.cell? ⟨Ba, 0, none⟩ = some (.int .i64 k)) (hBt : w.cell? ⟨Bt, 0, none⟩ = some (.slice (some ⟨b, off, none⟩) t.length c)) (hN : NodesIn w b off t) (h1 : Ba < w.heap.size) (h2 : Bt < w.heap.size) (h3 : b < w.heap.size) :
    SeqStopsK Fence.wide n Tryz.prog 59 #[.pointer (some ⟨Ba, 0, none⟩), .pointer (some ⟨Bt, 0, none⟩)] (fun x : Nat => #[encI x]) (KeepL [Ba, Bt, b]) (fun ys => ys = kidsL t k) (fun _ => True) t.length w := fun l J Jx W hW hJ _ hY h0 => by
  have hK : KeepL [Ba, Bt, b] w W := keepL_below (by simp; omega) hW
  exact kids1_in n hn l Ba Bt b off c t hl k hk0 hk J Jx hY W hJ ((hK.cell (by simp)).trans hBa) ((hK.cell (by simp)).trans hBt) (hK.nodes (by simp) hN) h0
theorem attrs_stops (n : Nat) (hn : 1 ≤ n) (Ba Bt b off c : Nat) (t : List Nd) (hl : t.length ≤ 16384) (k e : Nat) (A : AttrIs t k e) (w : World) (hBa : w.cell? ⟨Ba, 0, none⟩ = some (.int .i64 (k : Int))) (hBt : w.cell? ⟨Bt, 0, none⟩ = some (.slice (some ⟨b, off, none⟩) t.length c)) (hN : NodesIn w b off t) (h1 : Ba < w.heap.size) (h2 : Bt < w.heap.size) (h3 : b < w.heap.size) :
    SeqStopsK Fence.wide n Tryz.prog 60 #[.pointer (some ⟨Ba, 0, none⟩), .pointer (some ⟨Bt, 0, none⟩)] (fun x : Nat => #[encI x]) (KeepL [Ba, Bt, b]) (fun ys => ys = attrsL k e) (fun _ => True) t.length w := fun l J Jx W hW hJ _ hY h0 => by
  have hK : KeepL [Ba, Bt, b] w W := keepL_below (by simp; omega) hW
  exact attrs1_in n hn l Ba Bt b off c t hl k e A J Jx hY W hJ ((hK.cell (by simp)).trans hBa) ((hK.cell (by simp)).trans hBt) (hK.nodes (by simp) hN) h0
end Go.Proofs.YtdfgmdddnehocabGreatDoor

namespace Go.Proofs.YtdfgmdddnehocabGreatDoor
open Go.RowKit Go.Maps Go.Lib Go.Shelf
attribute [local go_sem] Oper.semAt_some

theorem info3p : (Tryz.prog.info? 3).map (fun i => (i.zero, i.size, i.bytes)) = some (some (.int .i64 0), 1, 8) := by kernel_rfl

set_option maxRecDepth 100000 in
set_option maxHeartbeats 2000000 in
theorem appendSeq_in (n : Nat) (hn : 2 ≤ n) (g : Nat) (lb : Array Value) (eg : ∀ args w, (callFunc g args).run Tryz.prog w = .ok (.enter g args) w) (L : List Nat) (S : List Nat → Prop) (N : Nat) (hN : N ≤ 16384) (w : World) (hL : ∀ x ∈ L, x < w.heap.size)
    (hseq : SeqStopsK Fence.wide (n - 1) Tryz.prog g lb (fun x : Nat => #[encI x]) (KeepL L) S (fun _ => True) N w) :
    CallsIn Fence.wide n Tryz.prog 58 #[.slice none 0 0, .func (.func g) #[] lb] w fun e w' => ∃ v xs, e = .returned v ∧ S xs ∧ Ints w w' v xs ∧ Below w.heap.size w w' := by
  have h1 : 1 ≤ n := by omega
  obtain ⟨i0, hi, hz0, hz1, hz2⟩ := info_parts info3p
  refine callsIn_of_wp_marks Tryz.func58 rfl trivial ?_ rfl
  simp only [Tryz.ntmps58, List.size_toArray, List.length_cons, List.length_nil, Nat.reduceAdd, Nat.reduceSub, Array.replicate_succ, Array.replicate_zero, List.push_toArray, List.append_toArray, List.nil_append, List.cons_append]
  gi_wp2
  have bO := Boxed.new w 29 (.slice none 0 0)
  have hB0 : Below w.heap.size w (w.alloc (.cells #[.slice none 0 0] 29)) := (Below.refl _ w).alloc (Nat.le_refl _) _
  refine wpIn_rangeFunc_ownG rfl h1 (gf := g) (lb := lb) rfl trivial eg hseq KeepL.trans (keepL_b (fun x hx => by have := hL x hx; simp; omega)) hB0 (fun _ => rfl)
    (fun pre W => (∃ v, Boxed W w.heap.size 29 v ∧ W.ownsRow w.heap.size 3 1 v pre.length (pre.map encI) ∧ True) ∧ Below w.heap.size w W)
    (fun _ _ _ => False)
    (OwnFrom.and (Own.from (holdsRow_own w.heap.size w.heap.size 29 3 1 (fun pre : List Nat => pre.length) (fun pre => pre.map encI) (fun _ _ => True)) _) (ownFrom_below (Nat.le_refl _) (by simp)))
    (fun _ _ _ _ _ hs _ _ => hs)
    ⟨⟨_, bO, World.ownsRow_nil _ _ _ _, trivial⟩, hB0⟩
    (fun x => { tmps := #[.slice none 0 0, .func (.func g) #[] lb, .pointer (some ⟨w.heap.size, 0, none⟩), undef, .slice none 0 0, encI x, .func (.func g) #[] lb, encI x, undef, undef, undef, undef, undef], defers := [] }) ?assign ?body ?done ?stop
  case assign =>
    intro l x W K hK
    gi_wp2
    exact hK
  case body =>
    rintro l pre x W ⟨⟨v, hv, hrow, _⟩, hB⟩ hlt
    have hc := hv.cell
    gi_wp2_with (gi_at_builtin; refine wpListIn_append_own _ rfl _ _ 29 rfl w.heap.size 3 i0 (.int .i64 0) 1 8 Tryz.underlying29 hi hz0 hz1 hz2 rfl (by decide) _ _ _ rfl (hrow.alloc _) ⟨W.heap.size, 0, none⟩ 1 1 [encI x] rfl rfl (cell_one_new _ _ _) (by simp [Value.oneCell']) (by unfold maxLen; omega) (by omega) (by have := hB.size; simp; omega) ?_; intro v' w1 hown' hgrow _; obtain ⟨g', cap', rfl⟩ := ownsRow_succ hown'; obtain ⟨hv1, hv2, hr2, hk2, hb2⟩ := hv.appended (by decide) hrow hB.size (Nat.le_refl _) hown' hgrow; have hc1 := hv1.cell; have hf1 := hv1.frozen)
    exact ⟨hk2.from _, keepL_below hL hb2, ⟨_, hv2, by simpa using hr2, trivial⟩, hB.trans hb2⟩
  case done =>
    rintro D ys W hD hS ⟨⟨v, hv, hrow, _⟩, hB⟩ hK
    have hc := hv.cell
    gi_wp2
    refine ⟨by simp, .inl ⟨_, _, rfl, run_takeDeferred hK, ?_⟩⟩
    exact ⟨_, results_tmp rfl _ _ _, v, ys, rfl, hS, ownsRow_putObj hrow _ hK rfl, hB.trans (belowK_b (w := w) (Nat.le_refl _) W D _ _ (by simp at hD; omega) hK rfl rfl)⟩
  case stop =>
    rintro D c pre W _ _ h _
    exact h.elim

set_option maxHeartbeats 1000000 in
theorem collect_in (g : Nat) (lb : Array Value) (eg : ∀ args w, (callFunc g args).run Tryz.prog w = .ok (.enter g args) w) (L : List Nat) (S : List Nat → Prop) (N : Nat) (hN : N ≤ 16384) (w : World) (hL : ∀ x ∈ L, x < w.heap.size)
    (hseq : SeqStopsK Fence.wide 1 Tryz.prog g lb (fun x : Nat => #[encI x]) (KeepL L) S (fun _ => True) N w) :
    Calls Tryz.prog 25 #[.func (.func g) #[] lb] w fun e w' => ∃ v xs, e = .returned v ∧ S xs ∧ Ints w w' v xs ∧ Fr [] w w' := by
  have hA := Hid.mk (callsIn_wide.1 (appendSeq_in 2 (by omega) g lb eg L S N hN w hL hseq))
  clear hseq
  go_enter Tryz.func25, Tryz.ntmps25
  go_wp2_with (go_at_call 58; refine hA.out.mono ?_; rintro e w' ⟨v, xs, rfl, hS, hrow, hb⟩)
  go_ret
  exact ⟨v, xs, rfl, hS, hrow, below_fr hb⟩
end Go.Proofs.YtdfgmdddnehocabGreatDoor

namespace Go.Proofs.YtdfgmdddnehocabGreatDoor
open Go.RowKit Go.Maps Go.Lib Go.Shelf
attribute [local go_sem] Oper.semAt_some

theorem wpIn_appI {F : Fence} {n : Nat} {ops : Array Oper} {rest : List Oper} {o : Oper} {a : Act} {w : World} {Q : Exit → Act → World → Prop} (hgd : o.guard = none) (s y : Operand) (ho : o.op = .call { callee := .builtin .append, args := #[s, y], argTypes := #[29, 29] }) (base : Nat) (v : Value) (l : List Nat) (hs : a.eval s = v) (hown : w.ownsRow base 3 1 v l.length (l.map encI))
    (b c x : Nat) (hy : a.eval y = .slice (some ⟨b, 0, none⟩) 1 c) (hx : w.cell? ⟨b, 0, none⟩ = some (encI x)) (hm : l.length + 1 ≤ 16777216) (hb : base ≤ w.heap.size)
    (h : ∀ g cap w', w'.ownsRow base 3 1 (.slice (some ⟨g, 0, none⟩) (l.length + 1) cap) (l.length + 1) ((l ++ [x]).map encI) → w.grownBy w' v.ownBlock → (v.ownBlock = some g ∨ g = w.heap.size) → wpListIn F n Tryz.prog ops Q rest (a.put o.dst (.slice (some ⟨g, 0, none⟩) (l.length + 1) cap)) w') : wpListIn F n Tryz.prog ops Q (o :: rest) a w := by
  refine wpListIn_plain hgd fun K hK => ?_
  obtain ⟨i, hi, hz, hsz, hby⟩ := info3'
  obtain ⟨g, cap, w', hrun, h2, h3, h5, h6⟩ := run_append_lies (P := Tryz.prog) w 29 o.type base 3 i (.int .i64 0) 1 8 Tryz.underlying29 hi hz hsz hby rfl (by omega) v l.length (l.map encI) hown ⟨b, 0, none⟩ 1 c [encI x] (by simp) (by intro j u hj; cases j with | zero => (simp at hj; subst hj; rw [Addr.add_mid]; simpa using hx) | succ j => simp at hj) (by intro u hu; simp at hu; subst hu; rfl) (by omega) (by unfold maxLen; omega) (by omega) hb _ rfl
  unfold Oper.wpIn
  refine ⟨?_, ?_⟩
  · simp [Oper.about, ho, resolve, Target.leads, Sem.run_pure]
  · rw [Oper.semAt_plain F _ _ (by rw [ho]; intro c hc'; cases hc')]
    simp [execOp, ho, resolve, invoke, builtin, hs, hy, hrun, Result.andThen]
    refine hK _ _ (h g cap w' ?_ h3 h5)
    rw [List.map_append]
    exact h2

theorem fr_belowN {n : Nat} {w w' : World} (f : Fr [] w w') (h : n ≤ w.heap.size) : Below n w w' := ⟨f.os, f.tape, f.output, f.size, fun k hk => f.block k (Nat.lt_of_lt_of_le hk h) (by simp)⟩
/-- Where two rows of numbers that are made lie: their boxes, and they themselves. -/
structure SibAt (B0 B1 B2 n1 : Nat) (m : Nat) (pre : List Nat) (W : World) : Prop where
  big : n1 ≤ W.heap.size
  at_ : Boxed W B0 3 (.int .i64 (m : Int))
  two : ∃ v1 v2, Boxed W B1 29 v1 ∧ Boxed W B2 29 v2 ∧ W.ownsRow n1 3 1 v1 (pre.filter (fun i => decide (i < m))).length ((pre.filter (fun i => decide (i < m))).map encI) ∧ W.ownsRow n1 3 1 v2 (pre.filter (fun i => decide (m < i))).length ((pre.filter (fun i => decide (m < i))).map encI) ∧ ∀ g, v1.ownBlock = some g → v2.ownBlock ≠ some g
theorem row_other {X : World} {base : Nat} {v : Value} {k : Nat} {xs : List Value} (h : X.ownsRow base 3 1 v k xs) {r : Nat} {o : Obj} (ho : X.heap[r]? = some o) (hc : o.isCells = false) : v.ownBlock ≠ some r := by
  rcases h.2 with ⟨rfl, _⟩ | ⟨g, cap, cur, rfl, _, hg, _⟩
  · simp [Value.ownBlock]
  · intro e
    obtain rfl : g = r := by simpa [Value.ownBlock] using e
    rw [hg] at ho; cases ho; cases hc
theorem row_kept {X Y : World} {row : Option Nat} {base : Nat} {v : Value} {k : Nat} {xs : List Value} (h : X.ownsRow base 3 1 v k xs) (hg : X.grownBy Y row) (hne : ∀ r, row = some r → v.ownBlock ≠ some r) : Y.ownsRow base 3 1 v k xs := by
  refine h.kept hg ?_
  rcases h.2 with ⟨rfl, _⟩ | ⟨g, cap, cur, rfl, _, hgb, _⟩
  · exact .inl rfl
  · refine .inr fun e => ?_
    exact hne g e.symm rfl
theorem sib_own (B0 B1 B2 n1 m B : Nat) : OwnFrom B (SibAt B0 B1 B2 n1 m) := by
  rintro pre X Y row ⟨hb, h0, v1, v2, h1, h2, r1, r2, ap⟩ hg hrow
  have key : ∀ {B T v}, Boxed X B T v → some B ≠ row := fun hb e => by
    obtain ⟨_, o, ho, hc⟩ := hrow _ e.symm
    rw [show X.heap[_]? = _ from hb] at ho; cases ho; cases hc
  have key2 : ∀ {v k xs}, X.ownsRow n1 3 1 v k xs → ∀ r, row = some r → v.ownBlock ≠ some r := fun hr r e => by
    obtain ⟨_, o, ho, hc⟩ := hrow r e
    exact row_other hr ho hc
  exact ⟨Nat.le_trans hb hg.size, h0.kept hg (key h0), v1, v2, h1.kept hg (key h1), h2.kept hg (key h2), row_kept r1 hg (key2 r1), row_kept r2 hg (key2 r2), ap⟩

/-- One number more in one of two rows. -/
theorem sib_put {W w1 : World} {n0 n1 Bx By Bz g cap k : Nat} {vx vy : Value} {xs ys zs : List Value} {kx ky : Nat} {z : Value} {tmp : Obj}
    (hx : Boxed W Bx 29 vx) (hy : Boxed W By 29 vy) (hz : Boxed W Bz 3 z) (rx : W.ownsRow n1 3 1 vx kx xs) (ry : W.ownsRow n1 3 1 vy ky ys) (ap : ∀ j, vx.ownBlock = some j → vy.ownBlock ≠ some j)
    (h0 : n0 ≤ Bx) (h1 : Bx < n1) (h2 : By < n1) (h3 : Bz < n1) (hxy : Bx ≠ By) (hxz : Bx ≠ Bz) (hn : n1 ≤ W.heap.size)
    (hown : w1.ownsRow n1 3 1 (.slice (some ⟨g, 0, none⟩) k cap) k zs) (hgrow : (W.alloc tmp).grownBy w1 vx.ownBlock) (hg : vx.ownBlock = some g ∨ g = (W.alloc tmp).heap.size) :
    Boxed w1 Bx 29 vx ∧ Boxed (w1.setCell ⟨Bx, 0, none⟩ (.slice (some ⟨g, 0, none⟩) k cap)) Bx 29 (.slice (some ⟨g, 0, none⟩) k cap) ∧ Boxed (w1.setCell ⟨Bx, 0, none⟩ (.slice (some ⟨g, 0, none⟩) k cap)) By 29 vy ∧ Boxed (w1.setCell ⟨Bx, 0, none⟩ (.slice (some ⟨g, 0, none⟩) k cap)) Bz 3 z
      ∧ (w1.setCell ⟨Bx, 0, none⟩ (.slice (some ⟨g, 0, none⟩) k cap)).ownsRow n1 3 1 (.slice (some ⟨g, 0, none⟩) k cap) k zs ∧ (w1.setCell ⟨Bx, 0, none⟩ (.slice (some ⟨g, 0, none⟩) k cap)).ownsRow n1 3 1 vy ky ys ∧ vy.ownBlock ≠ some g
      ∧ KeepsOthers W (w1.setCell ⟨Bx, 0, none⟩ (.slice (some ⟨g, 0, none⟩) k cap)) ∧ (∀ L : List Nat, (∀ j ∈ L, j < n1 ∧ j ≠ Bx) → KeepL L W (w1.setCell ⟨Bx, 0, none⟩ (.slice (some ⟨g, 0, none⟩) k cap))) ∧ Below n0 W (w1.setCell ⟨Bx, 0, none⟩ (.slice (some ⟨g, 0, none⟩) k cap)) := by
  have key : ∀ j, vx.ownBlock = some j → n1 ≤ j := fun j e => (rx.lt j e).1
  have keyy : ∀ j, vy.ownBlock = some j → n1 ≤ j ∧ j < W.heap.size := fun j e => ry.lt j e
  have bk : ∀ {B T v}, B < n1 → Boxed W B T v → Boxed w1 B T v := fun hB hb => (hb.alloc tmp).kept hgrow (fun e => by have := key _ e.symm; omega)
  have hx1 := bk h1 hx
  have hy1 := bk h2 hy
  have hz1 := bk h3 hz
  have ry1 : w1.ownsRow n1 3 1 vy ky ys := row_kept (ry.alloc tmp) hgrow (fun r e e' => ap r e e')
  have hset := grownBy_setCell' w1 Bx (.slice (some ⟨g, 0, none⟩) k cap)
  have hg2 : n1 ≤ g := (hown.lt g rfl).1
  have same : ∀ j, j < n1 → j ≠ Bx → (w1.setCell ⟨Bx, 0, none⟩ (.slice (some ⟨g, 0, none⟩) k cap)).heap[j]? = W.heap[j]? := fun j hj hne => by
    rw [hset.block j (by have := hgrow.size; simp at this; omega) (fun e => hne (by cases e; rfl)), hgrow.block j (by simp; omega) (fun e => by have := key _ e.symm; omega)]
    exact Below.heap_alloc W tmp j (by omega)
  refine ⟨hx1, hx1.set _, hy1.other (fun e => hxy e.symm) _, hz1.other (fun e => hxz e.symm) _, row_kept hown hset (fun r e e' => ?_), row_kept ry1 hset (fun r e e' => ?_), ?_, ?_, fun L hL j hj => same j (hL j hj).1 (hL j hj).2, ?_⟩
  · cases e
    have : g = Bx := by simpa [Value.ownBlock] using e'
    omega
  · cases e
    have := (keyy Bx e').1
    omega
  · intro e
    rcases hg with h | h
    · exact ap g h e
    · have := (keyy g e).2
      simp at h
      omega
  · refine ((KeepsOthers.alloc W tmp).trans (KeepsOthers.of_grownBy hgrow fun j o ej hj => ?_)).trans (KeepsOthers.setCell _ _ _)
    rcases (rx.alloc tmp).2 with ⟨rfl, _⟩ | ⟨g', cap', cur, rfl, _, hgb, _⟩
    · simp [Value.ownBlock] at ej
    · obtain rfl : g' = j := by simpa [Value.ownBlock] using ej
      rw [hgb] at hj; cases hj; rfl
  · exact ⟨hgrow.os, hgrow.tape, hgrow.output, by have h1 := hset.size; have h2 := hgrow.size; simp at h2; omega, fun j hj => same j (by omega) (by omega)⟩
theorem row_shape {W : World} {base : Nat} {v : Value} {k : Nat} {xs : List Value} (h : W.ownsRow base 3 1 v k xs) : ∃ ad cap, v = .slice ad k cap := by
  rcases h.2 with ⟨rfl, h0⟩ | ⟨g, cap, cur, rfl, _⟩
  · exact ⟨none, 0, by rw [h0]⟩
  · exact ⟨_, cap, rfl⟩
theorem own_base {W : World} {base base' : Nat} {v : Value} {k : Nat} {xs : List Value} (h : W.ownsRow base 3 1 v k xs) (hb : base' ≤ base) : W.ownsRow base' 3 1 v k xs := by
  obtain ⟨h1, h2⟩ := h
  refine ⟨h1, ?_⟩
  rcases h2 with hn | ⟨g, cap, cur, rfl, hb', r⟩
  · exact Or.inl hn
  · exact Or.inr ⟨g, cap, cur, rfl, Nat.le_trans hb hb', r⟩
theorem res_two {fn : Func} {p q : Tmp} (h : fn.results = #[.cell p 29, .cell q 29]) (tmps : Array Value) (w : World) (g1 g2 : Nat) (V1 V2 : Value) (hp : tmps.getD p undef = .pointer (some ⟨g1, 0, none⟩)) (hq : tmps.getD q undef = .pointer (some ⟨g2, 0, none⟩)) (h1 : Boxed w g1 29 V1) (h2 : Boxed w g2 29 V2) :
    (results fn tmps).run Tryz.prog w = .ok (.tuple #[V1, V2]) w := by
  have c1 := h1.cell
  have c2 := h2.cell
  rw [Array.getD_eq_getD_getElem?] at hp hq
  simp [results, h, hp, hq, asAddr, go_sem, c1, c2, Result.andThen]
set_option maxRecDepth 100000 in
set_option maxHeartbeats 4000000 in
theorem siblings_any (w : World) (b off c : Nat) (t : List Nd) (hN : NodesIn w b off t) (hl : t.length ≤ 16384) (m : Nat) (hm : m < t.length) (O : Ord t m) (h3 : knd t m ≠ 3) (hb : b < w.heap.size) :
    Calls Tryz.prog 30 #[.slice (some ⟨b, off, none⟩) t.length c, .int .i64 (m : Int)] w fun e w' => ∃ v1 v2, e = .returned (.tuple #[v1, v2]) ∧ Ints w w' v1 ((kidsL t (par t m)).filter (fun i => decide (i < m))) ∧ Ints w w' v2 ((kidsL t (par t m)).filter (fun i => decide (m < i))) ∧ Fr [] w w' := by
  obtain ⟨c0, c1, c2, c3⟩ := hN m hm
  have hkb : ((((knd t m : Nat)) : Int) == 3) = false := by rw [beq_eq_false_iff_ne]; omega
  have hp0 := O.1
  have hp1 := O.2.1
  have hm' : (m : Int) < (t.length : Int) := by omega
  have hm0 : (0 : Int) ≤ (m : Int) := by omega
  have HN := Hid.mk hN
  generalize knd t m = K at c0 hkb
  obtain ⟨P0, hP0⟩ : ∃ P0, par t m = P0 := ⟨_, rfl⟩
  rw [hP0] at c3 hp0 hp1 ⊢
  clear h3 hP0 c1 c2 O hN
  refine (callsIn_wide (n := 3)).1 ?_
  refine callsIn_of_wp_marks Tryz.func30 rfl trivial ?_ rfl
  simp only [Tryz.ntmps30, List.size_toArray, List.length_cons, List.length_nil, Nat.reduceAdd, Nat.reduceSub, Array.replicate_succ, Array.replicate_zero, List.push_toArray, List.append_toArray, List.nil_append, List.cons_append]
  have f3 : Fr [] w (((w.alloc (.cells #[.int .i64 (m : Int)] 3)).alloc (.cells #[.slice none 0 0] 29)).alloc (.cells #[.slice none 0 0] 29)) := (((Fr.refl _ _).alloc _).alloc _).alloc _
  have d0 := cell_fr f3 (by simp) c0
  have d3 := cell_fr f3 (by simp) c3
  have bA := ((Boxed.new w 3 (.int .i64 (m : Int))).alloc (.cells #[.slice none 0 0] 29)).alloc (.cells #[.slice none 0 0] 29)
  have b1 := (Boxed.new (w.alloc (.cells #[.int .i64 (m : Int)] 3)) 29 (.slice none 0 0)).alloc (.cells #[.slice none 0 0] 29)
  have b2 := Boxed.new ((w.alloc (.cells #[.int .i64 (m : Int)] 3)).alloc (.cells #[.slice none 0 0] 29)) 29 (.slice none 0 0)
  rw [World.size_alloc] at b1 b2
  rw [World.size_alloc] at b2
  have HA := Hid.mk bA
  have H1 := Hid.mk b1
  have H2 := Hid.mk b2
  have HF := Hid.mk f3
  have HB := Hid.mk ((((Below.refl w.heap.size w).alloc (Nat.le_refl _) (.cells #[.int .i64 (m : Int)] 3)).alloc (by simp) (.cells #[.slice none 0 0] 29)).alloc (by simp; omega) (.cells #[.slice none 0 0] 29))
  clear bA b1 b2 f3 c0 c3
  gi_wp2_with (refine ⟨trivial, ?_⟩; gi_at_call 26; refine (callsIn_wide.2 (kids_mk _ _ _ _ _)).mono ?_; rintro e w4 ⟨Ba, Bt, rfl, qa, qt, f4, g1, g2, g3, g4⟩)
  have g0 : w.heap.size + 1 + 1 + 1 ≤ Ba ∧ w.heap.size + 1 + 1 + 1 ≤ Bt := by
    simp only [World.size_alloc] at g1 g2
    exact ⟨g1, g2⟩
  have hw4 : w.heap.size + 1 + 1 + 1 ≤ w4.heap.size := by have := f4.size; simp only [World.size_alloc] at this; exact this
  have hN4 := HN.out.kept (HF.out.trans f4) (by simp)
  have hA4 : Boxed w4 w.heap.size 3 (.int .i64 (m : Int)) := f4.same (by simp) HA.out
  have h14 : Boxed w4 (w.heap.size + 1) 29 (.slice none 0 0) := f4.same (by simp) H1.out
  have h24 : Boxed w4 (w.heap.size + 1 + 1) 29 (.slice none 0 0) := f4.same (by simp) H2.out
  have hB4 : Below w.heap.size w w4 := HB.out.trans (fr_belowN f4 (by simp; omega))
  clear d0 d3 HA H1 H2 HF HB f4 g1 g2 HN
  refine wpIn_rangeFunc_ownG rfl (by omega) (gf := 59) (lb := #[.pointer (some ⟨Ba, 0, none⟩), .pointer (some ⟨Bt, 0, none⟩)]) rfl trivial enter_kids
    (kids_stops 2 (by omega) Ba Bt b off c t hl P0 hp0 (by omega) w4 qa qt hN4 g3 g4 (by omega)) KeepL.trans (keepL_b (by simp; omega)) (Below.refl _ _) (fun _ => rfl)
    (fun pre W => SibAt w.heap.size (w.heap.size + 1) (w.heap.size + 1 + 1) w4.heap.size m pre W ∧ Below w.heap.size w W)
    (fun _ _ _ => False)
    (OwnFrom.and (sib_own _ _ _ _ _ _) (ownFrom_below (Nat.le_refl _) (by omega)))
    (fun _ _ _ _ _ hs _ _ => hs)
    ⟨⟨Nat.le_refl _, hA4, _, _, h14, h24, World.ownsRow_nil _ _ _ _, World.ownsRow_nil _ _ _ _, (by intro g hg; cases hg)⟩, hB4⟩
    (fun x => { tmps := #[.slice (some ⟨b, off, none⟩) t.length c, .int .i64 (m : Int), undef, .pointer (some ⟨w.heap.size, 0, none⟩), .pointer (some ⟨w.heap.size + 1, 0, none⟩), .pointer (some ⟨w.heap.size + 1 + 1, 0, none⟩), encI x, .slice (some ⟨b, off, none⟩) t.length c, .int .i64 (m : Int), .pointer (some ⟨b, off + m * 4, none⟩), .pointer (some ⟨b, off + m * 4, none⟩), .int .u8 (K : Int), .bool false, .slice (some ⟨b, off, none⟩) t.length c, .slice (some ⟨b, off, none⟩) t.length c, .int .i64 (m : Int), .pointer (some ⟨b, off + m * 4, none⟩), .pointer (some ⟨b, off + m * 4 + 3, none⟩), .int .i64 P0, .func (.func 59) #[] #[.pointer (some ⟨Ba, 0, none⟩), .pointer (some ⟨Bt, 0, none⟩)], encI x, undef, undef, undef, undef, undef, undef, undef, undef, undef, undef, undef, undef, undef, undef, undef, undef, undef, undef], defers := [] }) ?assign ?body ?done ?stop
  case assign =>
    intro l x W K hK
    gi_wp2
    exact hK
  case body =>
    rintro l pre x W ⟨⟨hw, hA, v1, v2, hv1, hv2, r1, r2, ap⟩, hB⟩ hlt
    have hcA := hA.cell
    have hc1 := hv1.cell
    have hc2 := hv2.cell
    have l1 : (pre.filter (fun i => decide (i < m))).length ≤ pre.length := List.length_filter_le _ _
    have l2 : (pre.filter (fun i => decide (m < i))).length ≤ pre.length := List.length_filter_le _ _
    rcases Nat.lt_trichotomy x m with hx | hx | hx
    · have hx' : (x : Int) < (m : Int) := by omega
      have e1 : (pre ++ [x]).filter (fun i => decide (i < m)) = pre.filter (fun i => decide (i < m)) ++ [x] := by rw [List.filter_append]; simp [hx]
      have e2 : (pre ++ [x]).filter (fun i => decide (m < i)) = pre.filter (fun i => decide (m < i)) := by rw [List.filter_append]; simp; omega
      have E1 := Hid.mk e1
      have E2 := Hid.mk e2
      clear e1 e2 hx
      gi_wp2_with (gi_at_builtin; refine wpIn_appI rfl _ _ rfl w4.heap.size v1 (pre.filter (fun i => decide (i < m))) rfl (r1.alloc _) W.heap.size 1 x rfl (Boxed.new W 3 (encI x)).cell (by omega) (by simp; omega) ?_; intro g cap w1 hown hgrow hg; obtain ⟨p1, p2, p3, p4, p5, p6, p7, p8, p9, p10⟩ := sib_put (n0 := w.heap.size) hv1 hv2 hA r1 r2 ap (by omega) (by omega) (by omega) (by omega) (by omega) (by omega) hw hown hgrow hg; have hc3 := p1.cell; have hf3 := p1.frozen)
      exact ⟨p8.from _, p9 _ (by simp; omega), ⟨Nat.le_trans hw p10.size, p4, _, _, p2, p3, by rw [E1.out, List.length_append]; exact p5, by rw [E2.out]; exact p6, fun j e e' => p7 (by rw [e', ← e]; rfl)⟩, hB.trans p10⟩
    · have e1 : (pre ++ [x]).filter (fun i => decide (i < m)) = pre.filter (fun i => decide (i < m)) := by rw [List.filter_append]; simp; omega
      have e2 : (pre ++ [x]).filter (fun i => decide (m < i)) = pre.filter (fun i => decide (m < i)) := by rw [List.filter_append]; simp; omega
      have E1 := Hid.mk e1
      have E2 := Hid.mk e2
      have hx1 : ¬ (x : Int) < (m : Int) := by omega
      have hx2 : ¬ (m : Int) < (x : Int) := by omega
      clear e1 e2 hx
      gi_wp2
      exact ⟨KeepsFrom.refl _ _, KeepL.refl _ _, ⟨hw, hA, v1, v2, hv1, hv2, by rw [E1.out]; exact r1, by rw [E2.out]; exact r2, ap⟩, hB⟩
    · have hx1 : ¬ (x : Int) < (m : Int) := by omega
      have hx2 : (m : Int) < (x : Int) := by omega
      have e1 : (pre ++ [x]).filter (fun i => decide (i < m)) = pre.filter (fun i => decide (i < m)) := by rw [List.filter_append]; simp; omega
      have e2 : (pre ++ [x]).filter (fun i => decide (m < i)) = pre.filter (fun i => decide (m < i)) ++ [x] := by rw [List.filter_append]; simp [hx]
      have E1 := Hid.mk e1
      have E2 := Hid.mk e2
      clear e1 e2 hx
      gi_wp2_with (gi_at_builtin; refine wpIn_appI rfl _ _ rfl w4.heap.size v2 (pre.filter (fun i => decide (m < i))) rfl (r2.alloc _) W.heap.size 1 x rfl (Boxed.new W 3 (encI x)).cell (by omega) (by simp; omega) ?_; intro g cap w1 hown hgrow hg; obtain ⟨p1, p2, p3, p4, p5, p6, p7, p8, p9, p10⟩ := sib_put (n0 := w.heap.size) hv2 hv1 hA r2 r1 (fun j e e' => ap j e' e) (by omega) (by omega) (by omega) (by omega) (by omega) (by omega) hw hown hgrow hg; have hc3 := p1.cell; have hf3 := p1.frozen)
      exact ⟨p8.from _, p9 _ (by simp; omega), ⟨Nat.le_trans hw p10.size, p4, _, _, p3, p2, by rw [E1.out]; exact p6, by rw [E2.out, List.length_append]; exact p5, fun j e e' => p7 (by rw [e, ← e']; rfl)⟩, hB.trans p10⟩
  case done =>
    rintro D ys W hD rfl ⟨⟨hw, hA, v1, v2, hv1, hv2, r1, r2, ap⟩, hB⟩ hK
    obtain ⟨ad1, cap1, rfl⟩ := row_shape r1
    obtain ⟨ad2, cap2, rfl⟩ := row_shape r2
    have hc1 := hv1.cell
    have hc2 := hv2.cell
    have hf1 := hv1.frozen
    have hf2 := hv2.frozen
    gi_wp2
    gi_region
    obtain ⟨V1, hV1⟩ : ∃ V1, Value.slice ad1 ((kidsL t P0).filter (fun i => decide (i < m))).length cap1 = V1 := ⟨_, rfl⟩
    obtain ⟨V2, hV2⟩ : ∃ V2, Value.slice ad2 ((kidsL t P0).filter (fun i => decide (m < i))).length cap2 = V2 := ⟨_, rfl⟩
    rw [hV1] at hv1 r1 ap ⊢
    rw [hV2] at hv2 r2 ap ⊢
    have a1 : Boxed ((W.setCell ⟨w.heap.size + 1, 0, none⟩ V1).setCell ⟨w.heap.size + 1 + 1, 0, none⟩ V2) (w.heap.size + 1) 29 V1 := (hv1.set V1).other (by omega) V2
    have a2 : Boxed ((W.setCell ⟨w.heap.size + 1, 0, none⟩ V1).setCell ⟨w.heap.size + 1 + 1, 0, none⟩ V2) (w.heap.size + 1 + 1) 29 V2 := (hv2.other (by omega) V1).set V2
    have k1 : ∀ r, some (w.heap.size + 1) = some r → V1.ownBlock ≠ some r := fun r e e' => by cases e; have := (r1.lt _ e').1; omega
    have k2 : ∀ r, some (w.heap.size + 1 + 1) = some r → V1.ownBlock ≠ some r := fun r e e' => by cases e; have := (r1.lt _ e').1; omega
    have k3 : ∀ r, some (w.heap.size + 1) = some r → V2.ownBlock ≠ some r := fun r e e' => by cases e; have := (r2.lt _ e').1; omega
    have k4 : ∀ r, some (w.heap.size + 1 + 1) = some r → V2.ownBlock ≠ some r := fun r e e' => by cases e; have := (r2.lt _ e').1; omega
    have s1 := row_kept (row_kept r1 (grownBy_setCell' W (w.heap.size + 1) V1) k1) (grownBy_setCell' _ (w.heap.size + 1 + 1) V2) k2
    have s2 := row_kept (row_kept r2 (grownBy_setCell' W (w.heap.size + 1) V1) k3) (grownBy_setCell' _ (w.heap.size + 1 + 1) V2) k4
    have hK5 : ((W.setCell ⟨w.heap.size + 1, 0, none⟩ V1).setCell ⟨w.heap.size + 1 + 1, 0, none⟩ V2).heap[D]? = some (.deferred (some [])) := ((KeepsOthers.setCell W ⟨w.heap.size + 1, 0, none⟩ V1).trans (KeepsOthers.setCell _ ⟨w.heap.size + 1 + 1, 0, none⟩ V2)).same D _ hK rfl
    have hB5 := (hB.setCell (p := ⟨w.heap.size + 1, 0, none⟩) (by simp) V1).setCell (p := ⟨w.heap.size + 1 + 1, 0, none⟩) (by simp; omega) V2
    obtain ⟨W5, hW5⟩ : ∃ W5, (W.setCell ⟨w.heap.size + 1, 0, none⟩ V1).setCell ⟨w.heap.size + 1 + 1, 0, none⟩ V2 = W5 := ⟨_, rfl⟩
    rw [hW5] at a1 a2 s1 s2 hK5 hB5 ⊢
    clear hW5 hv1 hv2 hV1 hV2 hc1 hc2 hf1 hf2 k1 k2 k3 k4 r1 r2
    gi_wp2
    refine ⟨by simp, .inl ⟨_, _, rfl, run_takeDeferred (w := W5.drew) hK5, ?_⟩⟩
    have a1' : Boxed (W5.drew.putObj D (.deferred none)) (w.heap.size + 1) 29 V1 := (World.putObj_heap_other (w := W5.drew) (by omega)).trans a1
    have a2' : Boxed (W5.drew.putObj D (.deferred none)) (w.heap.size + 1 + 1) 29 V2 := (World.putObj_heap_other (w := W5.drew) (by omega)).trans a2
    refine ⟨_, res_two Tryz.results30 _ _ _ _ V1 V2 rfl rfl a1' a2', V1, V2, rfl, ?_, ?_, ?_⟩
    · exact own_base (ownsRow_putObj s1 _ hK5 rfl) (by omega)
    · exact own_base (ownsRow_putObj s2 _ hK5 rfl) (by omega)
    · exact below_fr ((hB5.trans (show Below w.heap.size W5 W5.drew from ⟨rfl, rfl, rfl, Nat.le_refl _, fun _ _ => rfl⟩)).trans (belowK_b (w := w) (Nat.le_refl _) W5.drew D _ _ (by omega) hK5 rfl rfl))
  case stop =>
    rintro D c pre W _ _ h _
    exact h.elim
end Go.Proofs.YtdfgmdddnehocabGreatDoor

