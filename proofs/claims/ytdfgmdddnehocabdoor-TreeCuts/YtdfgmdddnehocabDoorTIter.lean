/-
  The iterators over a row of nodes: children, attributes.
-/
import Derived.Test.YtdfgmdddnehocabDoorTStr
import Derived.Test.YtdfgmdddnehocabDoorTGoM
import Derived.RangeFuncNested
import Derived.RangeFuncBound
import Derived.RangeFuncCalls
import Derived.RangeFuncLeaves
import Derived.Shelf.Abstract
import Derived.Shelf.RegionOpen
import Derived.WalkKit
import Derived.OwnWalkIn
import Derived.TacticsInMore
import Derived.LoopNIn
import Derived.LoopIn
import Derived.Maps.AppendAt
import Derived.Sort.BigQuietIn
namespace Go.Proofs.YtdfgmdddnehocabDoor
open Go.RowKit Go.Maps Go.Lib Go.Shelf

attribute [local go_sem] Oper.semAt_some

/-- These blocks lie as they lay. -/
def KeepL (L : List Nat) (W W' : World) : Prop := ∀ g ∈ L, W'.heap[g]? = W.heap[g]?
theorem KeepL.refl (L : List Nat) (W : World) : KeepL L W W := fun _ _ => rfl
theorem KeepL.trans {L : List Nat} {A B C : World} (h : KeepL L A B) (k : KeepL L B C) : KeepL L A C := fun g hg => (k g hg).trans (h g hg)
theorem keepL_b {L : List Nat} {w : World} (hL : ∀ g ∈ L, g < w.heap.size) (W : World) (l : Nat) (o o' : Obj) (hl : w.heap.size ≤ l) (_ : W.heap[l]? = some o) (_ : o.isCells = false) (_ : o.isWalk = false) : KeepL L W (W.putObj l o') := fun g hg =>
  World.putObj_heap_other (by have := hL g hg; omega)
theorem KeepL.cell {L : List Nat} {W W' : World} (h : KeepL L W W') {g i : Nat} (hg : g ∈ L) : W'.cell? ⟨g, i, none⟩ = W.cell? ⟨g, i, none⟩ := World.cell?_of_block (h g hg)
theorem KeepL.nodes {L : List Nat} {W W' : World} (h : KeepL L W W') {b off : Nat} {t : List Nd} (hb : b ∈ L) (hN : NodesIn W b off t) : NodesIn W' b off t := fun i hi =>
  ⟨(h.cell hb).trans (hN i hi).1, (h.cell hb).trans (hN i hi).2.1, (h.cell hb).trans (hN i hi).2.2.1, (h.cell hb).trans (hN i hi).2.2.2⟩
theorem keepL_below {L : List Nat} {n₀ : Nat} {W W' : World} (hL : ∀ g ∈ L, g < n₀) (h : Below n₀ W W') : KeepL L W W' := fun g hg => h.block g (hL g hg)

theorem abides_drewN {β : Type} {B : Nat} {J : β → World → Prop} (hJ : AbidesFrom B J) {s : β} {W : World} {k : Nat} (h : J s W) : J s (W.drewN k) :=
  hJ s W _ none h ⟨rfl, rfl, rfl, Nat.le_refl _, fun _ _ _ => rfl⟩ (fun _ e => nomatch e)
theorem kidsTo_len (t : List Nd) (k : Int) (b : Nat) : (kidsTo t k b).length ≤ b := by
  unfold kidsTo
  refine Nat.le_trans (List.length_filter_le _ _) ?_
  rw [List.length_range']
  omega

set_option maxRecDepth 100000 in
set_option maxHeartbeats 4000000 in
theorem kids1_in (n : Nat) (hn : 1 ≤ n) (l Ba Bt b off c : Nat) (t : List Nd) (hl : t.length ≤ 16384) (k : Int) (hk0 : -1 ≤ k) (hk : k < t.length) (J Jx : List Nat → World → Prop)
    (hY : ∀ pre x W, J pre W → pre.length < t.length → YieldAt Fence.wide (n - 1) Tryd.prog l #[encI x] W fun e W' =>
      (e = .returned (.bool true) ∧ J (pre ++ [x]) W' ∧ KeepL [Ba, Bt, b] W W') ∨ (e = .returned (.bool false) ∧ Jx (pre ++ [x]) W'))
    (W : World) (hJ : AbidesFrom W.heap.size J) (hBa : W.cell? ⟨Ba, 0, none⟩ = some (.int .i64 k)) (hBt : W.cell? ⟨Bt, 0, none⟩ = some (.slice (some ⟨b, off, none⟩) t.length c)) (hN : NodesIn W b off t) (h0 : J [] W) :
    CallsIn Fence.wide n Tryd.prog 36 #[.func (.yield l) #[] #[], .pointer (some ⟨Ba, 0, none⟩), .pointer (some ⟨Bt, 0, none⟩)] W fun e W' => (∃ v, e = .returned v) ∧
      ((∃ ys, ys = kidsL t k ∧ J ys W') ∨ (∃ pre, True ∧ Jx pre W')) := by
  have E := endOf_is (t := t) (k := k) hk0 hk
  unfold kidsL
  obtain ⟨e, he⟩ : ∃ e, endOf t k = e := ⟨_, rfl⟩
  rw [he] at E ⊢
  have HE := Hid.mk E
  have HN := Hid.mk hN
  have HY := Hid.mk hY
  have HBa := Hid.mk hBa
  have HBt := Hid.mk hBt
  have hgt := E.gt
  have hle := E.le
  clear he hN E hY
  refine callsIn_of_wp Tryd.func36 rfl trivial ?_ rfl
  simp only [Tryd.ntmps36, List.size_toArray, List.length_cons, List.length_nil, Nat.reduceAdd, Nat.reduceSub, Array.replicate_succ, Array.replicate_zero, List.push_toArray, List.append_toArray, List.nil_append, List.cons_append]
  gi_wp2
  gi_loopw [4] (fun s4 wr => ∃ i : Nat, s4 = .int .i64 (i : Int) ∧ k < (i : Int) ∧ i ≤ e ∧ Hid (J (kidsTo t k i) wr) ∧ Hid (KeepL [Ba, Bt, b] W wr)) (fun s4 _ => t.length - (RowKit.intOf s4).toNat)
  case atStart => exact ⟨(k + 1).toNat, by congr 1; omega, by omega, by omega, (by show J (kidsTo t k _) _; unfold kidsTo; rw [Nat.sub_self]; exact h0), KeepL.refl _ _⟩
  case round =>
    obtain ⟨i, rfl, hki, hie, hJs, hkp⟩ := hrel
    have qa : wr.cell? ⟨Ba, 0, none⟩ = some (.int .i64 k) := (hkp.out.cell (by simp)).trans HBa.out
    have qt : wr.cell? ⟨Bt, 0, none⟩ = some (.slice (some ⟨b, off, none⟩) t.length c) := (hkp.out.cell (by simp)).trans HBt.out
    have HNr := Hid.mk (hkp.out.nodes (b := b) (by simp) HN.out)
    clear hBa hBt
    have hi0 : (0 : Int) ≤ (i : Int) := by omega
    by_cases hlt : i < e
    · have hp : k ≤ par t i := HE.out.all i (by omega) hlt
      have hil : (i : Int) < (t.length : Int) := by omega
      obtain ⟨c0, c1, c2, c3⟩ := HNr.out i (by omega)
      have hst := kids_step (t := t) (k := k) (b := i) (by omega)
      by_cases hpk : par t i = k
      · by_cases h3 : knd t i = 3
        · rw [if_neg (fun x => x.2 h3)] at hst
          have HST := Hid.mk hst
          rw [h3] at c0
          rw [hpk] at c3 hp
          clear c1 c2 hst h3 hpk
          gi_wp2
          gi_big_quiet_th (fail)
          gi_wp2
          refine wpIn_region_quiet_lit rfl (by kernel_rfl) (by kernel_rfl) ?_
          repeat (gi_big_quiet_step (fail))
          refine BigFrame.wpQuietIn_skip (fun _ _ _ _ => trivial) rfl ?_
          go_frame
          repeat (gi_big_quiet_step (fail))
          refine wpQuietIn_nil ?_
          intro _ hw'
          obtain ⟨nq2, hw''⟩ := hw'
          subst hw''
          gi_wp2
          go_roundw
          case rel => exact ⟨i + 1, by go_num, by omega, by omega, by show J (kidsTo t k (i + 1)) _; rw [HST.out]; exact abides_drewN hJ hJs.out, fun g hg => hkp.out g hg⟩
          case measure => simp [RowKit.intOf]; omega
        · rw [if_pos ⟨hpk, h3⟩] at hst
          have HST := Hid.mk hst
          have hkb : ((((knd t i : Nat)) : Int) != 3) = true := by rw [bne_iff_ne]; omega
          generalize knd t i = K at c0 hkb
          rw [hpk] at c3 hp
          clear c1 c2 hst h3 hpk
          gi_wp2
          gi_big_quiet_th (fail)
          gi_wp2
          obtain ⟨fn, tmps, assign, body, hy, hR⟩ := HY.out (kidsTo t k i) i (wr.drewN (nq + 1)) (abides_drewN hJ hJs.out) (by have := kidsTo_len t k i; omega)
          have hR2 := RoundIn.mono hR (R' := fun e' W' => ∃ bb : Bool, e' = .returned (.bool bb) ∧ Hid ((bb = true ∧ J (kidsTo t k i ++ [i]) W' ∧ KeepL [Ba, Bt, b] (wr.drewN (nq + 1)) W') ∨ (bb = false ∧ Jx (kidsTo t k i ++ [i]) W'))) (by
            rintro e' W' (⟨h1, h2, h3⟩ | ⟨h1, h2⟩)
            · exact ⟨true, h1, Or.inl ⟨rfl, h2, h3⟩⟩
            · exact ⟨false, h1, Or.inr ⟨rfl, h2⟩⟩)
          clear hR
          gi_region_with (refine RoundIn.mono hR2 ?_; rintro e' W3 ⟨bb, rfl, hor⟩)
          all_goals
            (clear hR2 hy
             cases bb with
             | true =>
               rcases hor.out with ⟨_, hJ3, hk3⟩ | ⟨h, _⟩
               · clear hor
                 gi_wp2
                 go_roundw
                 case rel => exact ⟨i + 1, by go_num, by omega, by omega, by show J (kidsTo t k (i + 1)) _; rw [HST.out]; exact hJ3, fun g hg => (hk3 g hg).trans (hkp.out g hg)⟩
                 case measure => simp [RowKit.intOf]; omega
               · cases h
             | false =>
               rcases hor.out with ⟨h, _⟩ | ⟨_, hJx3⟩
               · cases h
               · clear hor
                 gi_wp2
                 refine bodyPost_ret (results_none rfl _ _ _) rfl ?_
                 exact ⟨⟨_, rfl⟩, .inr ⟨_, hJx3⟩⟩)
      · rw [if_neg (fun x => hpk x.1)] at hst
        have HST := Hid.mk hst
        have hpb : (par t i == k) = false := by rw [beq_eq_false_iff_ne]; exact hpk
        generalize par t i = p at c3 hp hpb
        clear c0 c1 c2 hst hpk
        gi_wp2
        gi_big_quiet_th (fail)
        gi_wp2
        refine wpIn_region_quiet_lit rfl (by kernel_rfl) (by kernel_rfl) ?_
        repeat (gi_big_quiet_step (fail))
        refine BigFrame.wpQuietIn_skip (fun _ _ _ _ => trivial) rfl ?_
        go_frame
        repeat (gi_big_quiet_step (fail))
        refine wpQuietIn_nil ?_
        intro _ hw'
        obtain ⟨nq2, hw''⟩ := hw'
        subst hw''
        gi_wp2
        go_roundw
        case rel => exact ⟨i + 1, by go_num, by omega, by omega, by show J (kidsTo t k (i + 1)) _; rw [HST.out]; exact abides_drewN hJ hJs.out, fun g hg => hkp.out g hg⟩
        case measure => simp [RowKit.intOf]; omega
    · obtain rfl : i = e := by omega
      by_cases hil : i < t.length
      · have hp : par t i < k := HE.out.stop hil
        have hil' : (i : Int) < (t.length : Int) := by omega
        obtain ⟨c0, c1, c2, c3⟩ := HNr.out i (by omega)
        have hp' : ¬ k ≤ par t i := by omega
        generalize par t i = p at c3 hp hp'
        clear c0 c1 c2
        gi_wp2
        gi_big_quiet_th (fail)
        gi_wp2
        go_end0
        exact ⟨⟨_, rfl⟩, .inl ⟨_, rfl, abides_drewN hJ hJs.out⟩⟩
      · have hil' : decide ((i : Int) < (t.length : Int)) = false := decide_eq_false (by omega)
        gi_wp2
        gi_big_quiet_th (fail)
        gi_wp2
        go_end0
        exact ⟨⟨_, rfl⟩, .inl ⟨_, rfl, abides_drewN hJ hJs.out⟩⟩
end Go.Proofs.YtdfgmdddnehocabDoor
