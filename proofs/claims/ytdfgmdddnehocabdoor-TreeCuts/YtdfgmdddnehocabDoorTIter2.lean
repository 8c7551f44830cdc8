/-
  The iterator over attributes; what makes iterators.
-/
import Derived.Test.YtdfgmdddnehocabDoorTIter
namespace Go.Proofs.YtdfgmdddnehocabDoor
open Go.RowKit Go.Maps Go.Lib Go.Shelf
attribute [local go_sem] Oper.semAt_some

def attrsL (k e : Nat) : List Nat := List.range' (k + 1) (e - (k + 1))
theorem attrs_step {k i : Nat} (h : k < i) : attrsL k (i + 1) = attrsL k i ++ [i] := by
  unfold attrsL
  rw [show i + 1 - (k + 1) = (i - (k + 1)) + 1 by omega, List.range'_concat, show k + 1 + 1 * (i - (k + 1)) = i by omega]
theorem attrs_len (k e : Nat) : (attrsL k e).length = e - (k + 1) := by
  unfold attrsL
  rw [List.length_range']

set_option maxRecDepth 100000 in
set_option maxHeartbeats 4000000 in
theorem attrs1_in (n : Nat) (hn : 1 ≤ n) (l Ba Bt b off c : Nat) (t : List Nd) (hl : t.length ≤ 16384) (k e : Nat) (A : AttrIs t k e) (J Jx : List Nat → World → Prop)
    (hY : ∀ pre x W, J pre W → pre.length < t.length → YieldAt Fence.wide (n - 1) Tryd.prog l #[encI x] W fun e W' =>
      (e = .returned (.bool true) ∧ J (pre ++ [x]) W' ∧ KeepL [Ba, Bt, b] W W') ∨ (e = .returned (.bool false) ∧ Jx (pre ++ [x]) W'))
    (W : World) (hJ : AbidesFrom W.heap.size J) (hBa : W.cell? ⟨Ba, 0, none⟩ = some (.int .i64 (k : Int))) (hBt : W.cell? ⟨Bt, 0, none⟩ = some (.slice (some ⟨b, off, none⟩) t.length c)) (hN : NodesIn W b off t) (h0 : J [] W) :
    CallsIn Fence.wide n Tryd.prog 35 #[.func (.yield l) #[] #[], .pointer (some ⟨Ba, 0, none⟩), .pointer (some ⟨Bt, 0, none⟩)] W fun e' W' => (∃ v, e' = .returned v) ∧
      ((∃ ys, ys = attrsL k e ∧ J ys W') ∨ (∃ pre, True ∧ Jx pre W')) := by
  have HE := Hid.mk A
  have HN := Hid.mk hN
  have HY := Hid.mk hY
  have HBa := Hid.mk hBa
  have HBt := Hid.mk hBt
  have hgt := A.gt
  have hle := A.le
  clear hN A hY
  refine callsIn_of_wp Tryd.func35 rfl trivial ?_ rfl
  simp only [Tryd.ntmps35, List.size_toArray, List.length_cons, List.length_nil, Nat.reduceAdd, Nat.reduceSub, Array.replicate_succ, Array.replicate_zero, List.push_toArray, List.append_toArray, List.nil_append, List.cons_append]
  gi_wp2
  gi_loopw [4] (fun s4 wr => ∃ i : Nat, s4 = .int .i64 (i : Int) ∧ k < i ∧ i ≤ e ∧ Hid (J (attrsL k i) wr) ∧ Hid (KeepL [Ba, Bt, b] W wr)) (fun s4 _ => t.length - (RowKit.intOf s4).toNat)
  case atStart => exact ⟨k + 1, by go_num, by omega, by omega, (by show J (attrsL k _) _; unfold attrsL; rw [Nat.sub_self]; exact h0), KeepL.refl _ _⟩
  case round =>
    obtain ⟨i, rfl, hki, hie, hJs, hkp⟩ := hrel
    have qa : wr.cell? ⟨Ba, 0, none⟩ = some (.int .i64 (k : Int)) := (hkp.out.cell (by simp)).trans HBa.out
    have qt : wr.cell? ⟨Bt, 0, none⟩ = some (.slice (some ⟨b, off, none⟩) t.length c) := (hkp.out.cell (by simp)).trans HBt.out
    have HNr := Hid.mk (hkp.out.nodes (b := b) (by simp) HN.out)
    clear hBa hBt
    have hi0 : (0 : Int) ≤ (i : Int) := by omega
    by_cases hlt : i < e
    · obtain ⟨hp, h3⟩ := HE.out.all i (by omega) hlt
      have hil : (i : Int) < (t.length : Int) := by omega
      obtain ⟨c0, c1, c2, c3⟩ := HNr.out i (by omega)
      rw [h3] at c0
      rw [hp] at c3
      have HST := Hid.mk (attrs_step (k := k) (i := i) (by omega))
      clear c1 c2 h3 hp
      gi_wp2
      gi_big_quiet_th (fail)
      obtain ⟨fn, tmps, assign, body, hy, hR⟩ := HY.out (attrsL k i) i (wr.drewN nq) (abides_drewN hJ hJs.out) (by rw [attrs_len]; omega)
      gi_wp2
      refine hR.mono ?_
      rintro e' W3 (⟨rfl, hJ3, hk3⟩ | ⟨rfl, hJx3⟩)
      · gi_wp2
        go_roundw
        case rel => exact ⟨i + 1, by go_num, by omega, by omega, by show J (attrsL k (i + 1)) _; rw [HST.out]; exact hJ3, fun g hg => (hk3 g hg).trans (hkp.out g hg)⟩
        case measure => simp [RowKit.intOf]; omega
      · gi_wp2
        refine bodyPost_ret (results_none rfl _ _ _) rfl ?_
        exact ⟨⟨_, rfl⟩, .inr ⟨_, trivial, hJx3⟩⟩
    · obtain rfl : i = e := by omega
      by_cases hil : i < t.length
      · have hst := HE.out.stop hil
        have hil' : (i : Int) < (t.length : Int) := by omega
        obtain ⟨c0, c1, c2, c3⟩ := HNr.out i (by omega)
        by_cases hp : par t i = (k : Int)
        · have h3 : ((((knd t i : Nat)) : Int) == 3) = false := by
            rw [beq_eq_false_iff_ne]
            intro h
            exact hst ⟨hp, by omega⟩
          rw [hp] at c3
          generalize knd t i = K at c0 h3
          clear c1 c2 hst hp
          gi_wp2
          gi_big_quiet_th (fail)
          gi_wp2
          go_end0
          exact ⟨⟨_, rfl⟩, .inl ⟨_, rfl, abides_drewN hJ hJs.out⟩⟩
        · have hpb : (par t i == (k : Int)) = false := by rw [beq_eq_false_iff_ne]; exact hp
          generalize par t i = p at c3 hpb
          clear c0 c1 c2 hst hp
          gi_wp2
          gi_big_quiet_th (fail)
          gi_wp2
          go_end0
          exact ⟨⟨_, rfl⟩, .inl ⟨_, rfl, abides_drewN hJ hJs.out⟩⟩
      · have hil' : decide ((i : Int) < (t.length : Int)) = false := decide_eq_false (by omega)
        gi_wp2
        gi_big_quiet_th (fail)
        gi_wp2
        go_end0
        exact ⟨⟨_, rfl⟩, .inl ⟨_, rfl, abides_drewN hJ hJs.out⟩⟩

/-! ### what makes them -/
set_option maxRecDepth 100000 in
set_option maxHeartbeats 1000000 in
theorem kids_mk (w : World) (ad : Option Addr) (m c : Nat) (k : Int) :
    Calls Tryd.prog 24 #[.slice ad m c, .int .i64 k] w fun e w' => ∃ Ba Bt, e = .returned (.func (.func 36) #[] #[.pointer (some ⟨Ba, 0, none⟩), .pointer (some ⟨Bt, 0, none⟩)]) ∧ w'.cell? ⟨Ba, 0, none⟩ = some (.int .i64 k) ∧ w'.cell? ⟨Bt, 0, none⟩ = some (.slice ad m c) ∧ Fr [] w w' ∧ w.heap.size ≤ Ba ∧ w.heap.size ≤ Bt ∧ Ba < w'.heap.size ∧ Bt < w'.heap.size := by
  go_enter Tryd.func24, Tryd.ntmps24
  go_wp2
  go_ret
  have h1 := Boxed.new (w.alloc (.cells #[.slice ad m c] 22)) 3 (.int .i64 k)
  have h2 := (Boxed.new w 22 (.slice ad m c)).alloc (.cells #[.int .i64 k] 3)
  rw [World.size_alloc] at h1
  exact ⟨w.heap.size + 1, w.heap.size, rfl, h1.cell, h2.cell, ((Fr.refl _ _).alloc _).alloc _, by omega, by omega, h1.lt, h2.lt⟩
set_option maxRecDepth 100000 in
set_option maxHeartbeats 1000000 in
theorem attributes_mk (w : World) (ad : Option Addr) (m c : Nat) (k : Int) :
    Calls Tryd.prog 23 #[.slice ad m c, .int .i64 k] w fun e w' => ∃ Ba Bt, e = .returned (.func (.func 35) #[] #[.pointer (some ⟨Ba, 0, none⟩), .pointer (some ⟨Bt, 0, none⟩)]) ∧ w'.cell? ⟨Ba, 0, none⟩ = some (.int .i64 k) ∧ w'.cell? ⟨Bt, 0, none⟩ = some (.slice ad m c) ∧ Fr [] w w' ∧ w.heap.size ≤ Ba ∧ w.heap.size ≤ Bt ∧ Ba < w'.heap.size ∧ Bt < w'.heap.size := by
  go_enter Tryd.func23, Tryd.ntmps23
  go_wp2
  go_ret
  have h1 := Boxed.new (w.alloc (.cells #[.slice ad m c] 22)) 3 (.int .i64 k)
  have h2 := (Boxed.new w 22 (.slice ad m c)).alloc (.cells #[.int .i64 k] 3)
  rw [World.size_alloc] at h1
  exact ⟨w.heap.size + 1, w.heap.size, rfl, h1.cell, h2.cell, ((Fr.refl _ _).alloc _).alloc _, by omega, by omega, h1.lt, h2.lt⟩

theorem enter_kids : ∀ args w, (callFunc 36 args).run Tryd.prog w = .ok (.enter 36 args) w := enters_of Tryd.func36 (by kernel_rfl) rfl
theorem enter_attrs : ∀ args w, (callFunc 35 args).run Tryd.prog w = .ok (.enter 35 args) w := enters_of Tryd.func35 (by kernel_rfl) rfl
theorem kids_stops (n : Nat) (hn : 1 ≤ n) (Ba Bt b off c : Nat) (t : List Nd) (hl : t.length ≤ 16384) (k : Int) (hk0 : -1 ≤ k) (hk : k < t.length) (w : World) (hBa : w.cell? ⟨Ba, 0, none⟩ = some (.int .i64 k)) (hBt : w.cell? ⟨Bt, 0, none⟩ = some (.slice (some ⟨b, off, none⟩) t.length c)) (hN : NodesIn w b off t) (h1 : Ba < w.heap.size) (h2 : Bt < w.heap.size) (h3 : b < w.heap.size) :
    SeqStopsK Fence.wide n Tryd.prog 36 #[.pointer (some ⟨Ba, 0, none⟩), .pointer (some ⟨Bt, 0, none⟩)] (fun x : Nat => #[encI x]) (KeepL [Ba, Bt, b]) (fun ys => ys = kidsL t k) (fun _ => True) t.length w := fun l J Jx W hW hJ _ hY h0 => by
  have hK : KeepL [Ba, Bt, b] w W := keepL_below (by simp; omega) hW
  exact kids1_in n hn l Ba Bt b off c t hl k hk0 hk J Jx hY W hJ ((hK.cell (by simp)).trans hBa) ((hK.cell (by simp)).trans hBt) (hK.nodes (by simp) hN) h0
theorem attrs_stops (n : Nat) (hn : 1 ≤ n) (Ba Bt b off c : Nat) (t : List Nd) (hl : t.length ≤ 16384) (k e : Nat) (A : AttrIs t k e) (w : World) (hBa : w.cell? ⟨Ba, 0, none⟩ = some (.int .i64 (k : Int))) (hBt : w.cell? ⟨Bt, 0, none⟩ = some (.slice (some ⟨b, off, none⟩) t.length c)) (hN : NodesIn w b off t) (h1 : Ba < w.heap.size) (h2 : Bt < w.heap.size) (h3 : b < w.heap.size) :
    SeqStopsK Fence.wide n Tryd.prog 35 #[.pointer (some ⟨Ba, 0, none⟩), .pointer (some ⟨Bt, 0, none⟩)] (fun x : Nat => #[encI x]) (KeepL [Ba, Bt, b]) (fun ys => ys = attrsL k e) (fun _ => True) t.length w := fun l J Jx W hW hJ _ hY h0 => by
  have hK : KeepL [Ba, Bt, b] w W := keepL_below (by simp; omega) hW
  exact attrs1_in n hn l Ba Bt b off c t hl k e A J Jx hY W hJ ((hK.cell (by simp)).trans hBa) ((hK.cell (by simp)).trans hBt) (hK.nodes (by simp) hN) h0
end Go.Proofs.YtdfgmdddnehocabDoor
