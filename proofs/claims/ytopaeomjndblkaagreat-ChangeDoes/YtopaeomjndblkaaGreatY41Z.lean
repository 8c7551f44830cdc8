/-
  Pages that differ in few places: how much of the log a Put wants.
-/
import Derived.Test.YtopaeomjndblkaaGreatY40Z
import Derived.Test.YtopaeomjndblkaaGreatY37Z
namespace Go.Proofs.YtopaeomjndblkaaGreat
open Go.RowKit Go.Maps

set_option maxRecDepth 100000 in
theorem logAbort_any {w : World} {b : Bk} (h : BkAt w b) (ok : TxOk b) (hroom : (35 : Int) ≤ b.room) (hE : b.x.y.E + 35 ≤ 400000) :
    Calls Tryz.prog 113 #[.pointer (some ⟨b.bp, 0, none⟩)] w fun e w' => e = .returned (.int .i64 0) ∧ ∃ y', Appd b.x.y y' 35 (txRec b.t (lastRec 4)) ∧ BStep w w' b { b with x := { b.x with y := y' }, t := { b.t with last := (b.x.y.E : Int) + 1 } } := by
  have HC := hidI (fun w' (f : Fr [] w w') => addLast_any (h.quiet f) ok (Or.inr rfl) hroom hE)
  have HR := hidI (broom_any h)
  have HH := hidI h
  have c1 := h.box.c1
  have q : ¬ b.room < 35 := by omega
  clear h ok hroom hE
  go_enter Tryz.func113, Tryz.ntmps113
  go_wp2_with fail
  refine HR.out.mono ?_
  rintro e w2 ⟨rfl, f2⟩
  go_wp2_with fail
  refine (HC.out _ f2).mono ?_
  rintro e w3 ⟨rfl, y', A3, B3⟩
  go_wp2_with fail
  go_ret
  exact ⟨rfl, y', A3, (BStep.quiet HH.out f2).trans B3⟩
def flA (B : Nat) : List (FuncId × List Value) := [(108, [.pointer (some ⟨B, 0, none⟩)]), (110, [.pointer (some ⟨B, 0, none⟩)]), (112, [.pointer (some ⟨B, 0, none⟩)]), (114, [.pointer (some ⟨B, 0, none⟩)])]
theorem enA (w : World) (B : Nat) : ∀ (i : Nat) (p : FuncId × List Value), (flA B)[i]? = some p → (callFunc p.1 p.2.toArray).run Tryz.prog w = .ok (.enter p.1 p.2.toArray) w
  | 0, p, h => by cases h; go_simp
  | 1, p, h => by cases h; go_simp
  | 2, p, h => by cases h; go_simp
  | 3, p, h => by cases h; go_simp
  | n + 4, p, h => by simp [flA] at h
def AbI (w : World) (b : Bk) (H : List Ch) (V : Pages) : Nat → World → Prop
  | 0, wr => BStep w wr b b
  | 1, wr => ∃ b', BStep w wr b b' ∧ Tr b b' ∧ UnTx b' H V ∧ b'.x.y.E = b.x.y.E
  | 2, wr => ∃ b', BStep w wr b b' ∧ Tr b b' ∧ UnTx b' [] (undoAll H V) ∧ (b'.x.y.E : Int) = (b.x.y.E : Int) + keptOf H
  | 3, wr => ∃ b', BStep w wr b b' ∧ Tr b b' ∧ Shows b'.x (undoAll H V) ∧ (b'.x.y.E : Int) = (b.x.y.E : Int) + keptOf H + 35
  | _, wr => ∃ b', BStep w wr b b' ∧ Tr b b' ∧ Shows b'.x (undoAll H V) ∧ (b'.x.y.E : Int) = (b.x.y.E : Int) + keptOf H + 35 ∧ b'.t = dl0
theorem AbI.st {w : World} {b : Bk} {H : List Ch} {V : Pages} {i : Nat} {wr : World} (h : AbI w b H V i wr) : ∃ b', BStep w wr b b' := by
  match i, h with
  | 0, h => exact ⟨_, h⟩
  | 1, ⟨b', h, _⟩ => exact ⟨b', h⟩
  | 2, ⟨b', h, _⟩ => exact ⟨b', h⟩
  | 3, ⟨b', h, _⟩ => exact ⟨b', h⟩
  | n + 4, ⟨b', h, _⟩ => exact ⟨b', h⟩
section
variable {w : World} {b : Bk} {B : Nat} (hB : w.heap[B]? = some (.cells #[.pointer (some ⟨b.bp, 0, none⟩)] 60))
include hB
theorem ab1 (h : BkAt w b) {H : List Ch} {V : Pages} (tx : UnTx b H V) : Calls Tryz.prog 108 #[.pointer (some ⟨B, 0, none⟩)] w fun e w' => e = .returned (.int .i64 0) ∧ ∃ x', Alike b.x x' ∧ Kin b.x.y x'.y ∧ BStep w w' b { b with x := x' } := by
  have c0 := cell_of_row w B 0 _ _ _ hB
  have HC := hidI (reach_all h tx)
  clear h hB tx
  go_enter Tryz.func108, Tryz.ntmps108
  go_wp2_with fail
  refine HC.out.mono ?_
  rintro e w2 ⟨rfl, h2⟩
  go_wp2_with fail
  go_ret
  exact ⟨rfl, h2⟩
theorem ab2 (h : BkAt w b) {H : List Ch} {V : Pages} (tx : UnTx b H V) : Calls Tryz.prog 110 #[.pointer (some ⟨B, 0, none⟩)] w fun e w' => e = .returned (.int .i64 0) ∧ ∃ b', BStep w w' b b' ∧ Tr b b' ∧ UnTx b' [] (undoAll H V) ∧ (b'.x.y.E : Int) = (b.x.y.E : Int) + keptOf H ∧ b'.t.num = b.t.num := by
  have c0 := cell_of_row w B 0 _ _ _ hB
  have HC := hidI (undo_all h tx)
  clear h hB tx
  go_enter Tryz.func110, Tryz.ntmps110
  go_wp2_with fail
  refine HC.out.mono ?_
  rintro e w2 ⟨rfl, h2⟩
  go_wp2_with fail
  go_ret
  exact ⟨rfl, h2⟩
theorem ab3 (h : BkAt w b) (ok : TxOk b) (hroom : (35 : Int) ≤ b.room) (hE : b.x.y.E + 35 ≤ 400000) : Calls Tryz.prog 112 #[.pointer (some ⟨B, 0, none⟩)] w fun e w' => e = .returned (.int .i64 0) ∧ ∃ y', Appd b.x.y y' 35 (txRec b.t (lastRec 4)) ∧ BStep w w' b { b with x := { b.x with y := y' }, t := { b.t with last := (b.x.y.E : Int) + 1 } } := by
  have c0 := cell_of_row w B 0 _ _ _ hB
  have HC := hidI (logAbort_any h ok hroom hE)
  clear h hB ok hroom hE
  go_enter Tryz.func112, Tryz.ntmps112
  go_wp2_with fail
  refine HC.out.mono ?_
  rintro e w2 ⟨rfl, h2⟩
  go_wp2_with fail
  go_ret
  exact ⟨rfl, h2⟩
theorem ab4 (h : BkAt w b) : Calls Tryz.prog 114 #[.pointer (some ⟨B, 0, none⟩)] w fun e w' => e = .returned (.int .i64 0) ∧ BStep w w' b { b with t := dl0 } := by
  have c0 := cell_of_row w B 0 _ _ _ hB
  have HC := hidI (leave_any h.box h.dl)
  have HH := hidI h
  clear h hB
  go_enter Tryz.func114, Tryz.ntmps114
  go_wp2_with fail
  refine HC.out.mono ?_
  rintro e w2 ⟨rfl, h2, f2⟩
  go_wp2_with fail
  go_ret
  exact ⟨rfl, BStep.deal HH.out h2 f2⟩
end
set_option maxHeartbeats 2000000 in
set_option maxRecDepth 100000 in
theorem abort_any {w : World} {b : Bk} (h : BkAt w b) {H : List Ch} {V : Pages} (hst1 : b.t.st = 1) (tx : UnTx b H V) :
    Calls Tryz.prog 33 #[.pointer (some ⟨b.bp, 0, none⟩)] w fun e w' => e = .returned (.int .i64 0) ∧ ∃ b', BStep w w' b b' ∧ Tr b b' ∧ Shows b'.x (undoAll H V) ∧ (b'.x.y.E : Int) = (b.x.y.E : Int) + keptOf H + 35 ∧ b'.t = dl0 := by
  have HH := hidI h
  have HT := hidI tx
  have hlt := hidI h.lt
  have fa : Fr [] w (w.alloc (.cells #[.pointer (some ⟨b.bp, 0, none⟩)] 60)) := (Fr.refl [] w).alloc _
  have hB := heap_alloc_new w (.cells #[.pointer (some ⟨b.bp, 0, none⟩)] 60)
  have hs1 : (w.alloc (.cells #[.pointer (some ⟨b.bp, 0, none⟩)] 60)).heap.size = w.heap.size + 1 := by simp
  obtain ⟨w1, hw1⟩ : ∃ w1, w.alloc (.cells #[.pointer (some ⟨b.bp, 0, none⟩)] 60) = w1 := ⟨_, rfl⟩
  rw [hw1] at fa hB hs1
  have c0 := cell_of_row w1 w.heap.size 0 _ _ _ hB
  have fb : Fr [] w1 (w1.alloc (.cells #[.int .i64 1, .int .i64 2, .int .i64 3] 166)) := (Fr.refl [] w1).alloc _
  have hst := heap_alloc_new w1 (.cells #[.int .i64 1, .int .i64 2, .int .i64 3] 166)
  have hs2 : (w1.alloc (.cells #[.int .i64 1, .int .i64 2, .int .i64 3] 166)).heap.size = w1.heap.size + 1 := by simp
  obtain ⟨w2, hw2⟩ : ∃ w2, w1.alloc (.cells #[.int .i64 1, .int .i64 2, .int .i64 3] 166) = w2 := ⟨_, rfl⟩
  rw [hw2] at fb hst hs2
  have B2 := hidI (h.quiet (fa.trans fb))
  have HS2 := hidI (cell_of_row w2 w1.heap.size 0 _ _ _ hst)
  rw [hs1] at HS2
  have hB2 := fb.same (by simp) hB
  clear h tx hst
  go_enter Tryz.func33, Tryz.ntmps33
  go_wp2_with (go_at_call 96; refine (within_in B2.out.box B2.out.dl hst1 (w.heap.size + 1) 3 3 (by omega) HS2.out).mono ?_; rintro e wz ⟨rfl, hz⟩; rw [hz]; clear hz)
  have fc : Fr [] w2 (w2.alloc (.cells #[.func (.func 108) #[] #[.pointer (some ⟨w.heap.size, 0, none⟩)], .func (.func 110) #[] #[.pointer (some ⟨w.heap.size, 0, none⟩)], .func (.func 112) #[] #[.pointer (some ⟨w.heap.size, 0, none⟩)], .func (.func 114) #[] #[.pointer (some ⟨w.heap.size, 0, none⟩)]] 77)) := (Fr.refl [] w2).alloc _
  have hfl := heap_alloc_new w2 (.cells #[.func (.func 108) #[] #[.pointer (some ⟨w.heap.size, 0, none⟩)], .func (.func 110) #[] #[.pointer (some ⟨w.heap.size, 0, none⟩)], .func (.func 112) #[] #[.pointer (some ⟨w.heap.size, 0, none⟩)], .func (.func 114) #[] #[.pointer (some ⟨w.heap.size, 0, none⟩)]] 77)
  rw [hs2, hs1] at hfl
  generalize (w2.alloc (.cells #[.func (.func 108) #[] #[.pointer (some ⟨w.heap.size, 0, none⟩)], .func (.func 110) #[] #[.pointer (some ⟨w.heap.size, 0, none⟩)], .func (.func 112) #[] #[.pointer (some ⟨w.heap.size, 0, none⟩)], .func (.func 114) #[] #[.pointer (some ⟨w.heap.size, 0, none⟩)]] 77)) = wt at fc hfl ⊢
  have hBt := fc.same (by simp) hB2
  have BT := B2.out.quiet fc
  have hout : ∀ j, w.heap.size ≤ j → j ∉ b.dp :: b.x.own := fun j hj hm => by
    have := hlt.out j (by rcases List.mem_cons.1 hm with e | e <;> simp [e])
    omega
  refine (inTurn_ok wt (some ⟨w.heap.size + 1 + 1, 0, none⟩) 4 4 (flA w.heap.size) rfl (by omega) (AbI wt b H V) (BStep.quiet BT (Fr.refl [] wt)) ?_ (fun i p hp w' => enA w' _ i p hp) ?_).mono ?_
  · intro i w' hI j p hp
    obtain ⟨b', st⟩ := hI.st
    have h3 := st.fr.same (hout (w.heap.size + 1 + 1) (by omega)) hfl
    refine ⟨_, rfl, ?_⟩
    rw [cell_of_row w' _ j _ _ _ h3]
    match j, hp with
    | 0, hp => cases hp; rfl
    | 1, hp => cases hp; rfl
    | 2, hp => cases hp; rfl
    | 3, hp => cases hp; rfl
    | n + 4, hp => simp [flA] at hp
  · intro i p hp w' hI
    have hbox : ∀ b', BStep wt w' b b' → w'.heap[w.heap.size]? = some (.cells #[.pointer (some ⟨b'.bp, 0, none⟩)] 60) := fun b' st => by
      rw [st.bp]
      exact st.fr.same (hout _ (Nat.le_refl _)) hBt
    match i, hp, hI with
    | 0, hp, hI =>
      cases hp
      refine (ab1 (hbox _ hI) hI.at' HT.out).mono ?_
      rintro e w9 ⟨rfl, x', al, k, st⟩
      exact ⟨rfl, _, hI.trans st, Tr.pool (t' := b.t) k al.2.1 al.1 al.2.2.1, HT.out.kin k al, k.E⟩
    | 1, hp, ⟨b', st, tr, ut, hE⟩ =>
      cases hp
      refine (ab2 (hbox _ st) st.at' ut).mono ?_
      rintro e w9 ⟨rfl, b9, st2, tr2, ut2, hE2, _⟩
      exact ⟨rfl, b9, st.trans st2, tr.trans tr2, ut2, by rw [hE2, hE]⟩
    | 2, hp, ⟨b', st, tr, ut, hE⟩ =>
      cases hp
      have h1 := ut.room
      have h2 := ut.E
      have h3 : keptOf [] = 0 := rfl
      refine (ab3 (hbox _ st) st.at' ut.ok (by omega) (by omega)).mono ?_
      rintro e w9 ⟨rfl, y', ap, st2⟩
      exact ⟨rfl, _, st.trans st2, tr.trans (Tr.appd ap), ut.sh.appd ap, by show (y'.E : Int) = _; rw [ap.E]; omega⟩
    | 3, hp, ⟨b', st, tr, sh, hE⟩ =>
      cases hp
      refine (ab4 (hbox _ st) st.at').mono ?_
      rintro e w9 ⟨rfl, st2⟩
      exact ⟨rfl, _, st.trans st2, tr.st, sh, hE, rfl⟩
    | n + 4, hp, _ => simp [flA] at hp
  · rintro e w9 ⟨rfl, b', st, tr, sh, hE, ht⟩
    go_wp2_with fail
    go_ret
    exact ⟨rfl, b', (BStep.quiet HH.out ((fa.trans fb).trans fc)).trans st, tr, sh, hE, ht⟩
end Go.Proofs.YtopaeomjndblkaaGreat

namespace Go.Proofs.YtopaeomjndblkaaGreat
open Go.RowKit Go.Maps

theorem lo_oldest {w : World} {y : Lo} (h : LoAt w y) : Calls Tryz.prog 195 #[.pointer (some ⟨y.p, 0, none⟩)] w fun e w' => e = .returned (.int .i64 ((y.A : Int) + 1)) ∧ w' = w := by
  have k0 : w.cell? ⟨y.p, 0, none⟩ = some (.pointer (some ⟨y.d, 0, none⟩)) := h.box.c0
  have k4 : w.cell? ⟨y.p, 4, none⟩ = some (.int .i64 ((y.A : Int) + 1)) := h.box.c4
  go_enter Tryz.func195, Tryz.ntmps195
  go_wp2_with (go_at_call 177; refine (lmade_yes _ _ _ k0).mono ?_; rintro e w ⟨rfl, rfl⟩)
  go_ret
  exact ⟨rfl, rfl⟩
set_option maxHeartbeats 2000000 in
set_option maxRecDepth 100000 in
theorem logBlocks_any {w : World} {b : Bk} (h : BkAt w b) : Calls Tryz.prog 95 #[.pointer (some ⟨b.bp, 0, none⟩)] w fun e w' => e = .returned (.int .i64 b.x.y.count) ∧ Fr [] w w' := by
  have n2 := h.po.lo.dev.n2
  have f0 := h.po.lo.f0
  have f1 := h.po.lo.f1
  have c0 := h.po.lo.c0
  have hE := h.po.lo.hE
  have hAE := h.po.lo.hAE
  have HRO : Hid (∀ w', Fr [] w w' → Calls Tryz.prog 89 #[.pointer (some ⟨b.x.y.p, 0, none⟩)] w' fun e w'' => e = .returned (.int .i64 b.room) ∧ Fr [] w' w'') := hidI (fun w' f => broom_any (h.quiet f))
  have HEN : Hid (∀ w', Fr [] w w' → Calls Tryz.prog 77 #[.pointer (some ⟨b.x.y.p, 0, none⟩)] w' fun e w'' => e = .returned (.int .i64 ((b.x.y.E : Int) + 1)) ∧ Fr [] w' w'') := hidI (fun w' f => (lo_end (h.quiet f).po.lo).mono (by rintro e w'' ⟨h1, rfl⟩; exact ⟨h1, Fr.refl _ _⟩))
  have HOL : Hid (∀ w', Fr [] w w' → Calls Tryz.prog 195 #[.pointer (some ⟨b.x.y.p, 0, none⟩)] w' fun e w'' => e = .returned (.int .i64 ((b.x.y.A : Int) + 1)) ∧ Fr [] w' w'') := hidI (fun w' f => (lo_oldest (h.quiet f).po.lo).mono (by rintro e w'' ⟨h1, rfl⟩; exact ⟨h1, Fr.refl _ _⟩))
  have SK : Hid (∀ w', Fr [] w w' → w'.cell? ⟨b.bp, 1, none⟩ = some (.pointer (some ⟨b.x.y.p, 0, none⟩))) := hidI (fun w' f => (h.quiet f).box.c1)
  have gg : Fr [] w w.drew := (Fr.refl [] w).drew
  obtain ⟨R, HR⟩ : ∃ R : Int, Hid (b.room = R) := ⟨_, rfl⟩
  rw [HR.out] at HRO
  have hR : R = 408 * (b.x.y.count - 1) - ((b.x.y.E : Int) - (b.x.y.A : Int)) := by rw [← HR.out]; rfl
  obtain ⟨X, HX⟩ : ∃ X : Int, Hid ((b.x.y.E : Int) - (b.x.y.A : Int) = X) := ⟨_, rfl⟩
  have e1 : IntKind.i64.wrap ((b.x.y.E : Int) + 1 - ((b.x.y.A : Int) + 1)) = X := by rw [← HX.out, wrapI _ (by omega) (by omega)]; omega
  obtain ⟨Y, HY⟩ : ∃ Y : Int, Hid (408 * (b.x.y.count - 1) = Y) := ⟨_, rfl⟩
  have e2 : IntKind.i64.wrap (R + X) = Y := by rw [hR, ← HX.out, ← HY.out, wrapI _ (by omega) (by omega)]; omega
  have HYY := HY.out
  have e3 : Y / 408 = b.x.y.count - 1 := by rw [← HYY]; omega
  have hY0 : (0 : Int) ≤ Y := by omega
  have hY1 : Y ≤ 30000000 := by omega
  clear h hR
  go_enter Tryz.func95, Tryz.ntmps95
  go_wp2_with fail
  go_region_held3 (fun w' => w'.cell? ⟨b.bp, 1, none⟩ = some (.pointer (some ⟨b.x.y.p, 0, none⟩))) (exact SK.out _ gg) ((first
    | (go_at_call 89; refine (HRO.out _ gg).mono ?_; rintro e w4 ⟨rfl, f4⟩; replace gg := gg.trans f4)
    | (go_at_call 77; refine (HEN.out _ gg).mono ?_; rintro e w4 ⟨rfl, f4⟩; replace gg := gg.trans f4)
    | (go_at_call 195; refine (HOL.out _ gg).mono ?_; rintro e w4 ⟨rfl, f4⟩; replace gg := gg.trans f4)))
  all_goals
    go_wp2_with fail
    go_ret
    refine ⟨?_, gg⟩
    first
      | (congr 2; done)
      | (congr 2; omega)
      | (simp; omega)
      | rfl
/-- A transaction that begins: where the log has room for one. -/
def begT (b : Bk) : Dl := ⟨1, (b.x.y.E : Int) + 1, 0, 0, 0, 0, 0⟩
set_option maxHeartbeats 2000000 in
set_option maxRecDepth 100000 in
theorem begin_room {w : World} {b : Bk} (h : BkAt w b) (ht : b.t = dl0) (hroom : 204 * b.x.y.count ≤ b.room) : Calls Tryz.prog 30 #[.pointer (some ⟨b.bp, 0, none⟩)] w fun e w' => e = .returned (.int .i64 0) ∧ BStep w w' b { b with t := begT b } := by
  have HH := hidI h
  have h0 : b.t.st = 0 := by rw [ht]; rfl
  have n2 := h.po.lo.dev.n2
  have f0 := h.po.lo.f0
  have f1 := h.po.lo.f1
  have cc0 := h.po.lo.c0
  have c1 := h.box.c1
  obtain ⟨R, HR⟩ : ∃ R : Int, Hid (b.room = R) := ⟨_, rfl⟩
  obtain ⟨C, HC⟩ : ∃ C : Int, Hid (b.x.y.count = C) := ⟨_, rfl⟩
  rw [HR.out, HC.out] at hroom
  have hC1 : C ≤ 65536 := by rw [← HC.out]; omega
  have hC0 : 0 ≤ C := by rw [← HC.out]; omega
  have e1 : IntKind.i64.wrap (204 * C) = 204 * C := wrapI _ (by omega) (by omega)
  have q1 : ¬ R < 204 * C := by omega
  clear h f0 f1 cc0 n2
  go_enter Tryz.func30, Tryz.ntmps30
  go_wp2_with (go_at_call 94; refine (idle_out HH.out.box HH.out.dl h0).mono ?_; rintro e wz ⟨rfl, hz⟩; rw [hz]; clear hz)
  refine (broom_any HH.out).mono ?_
  rw [HR.out]
  rintro e w2 ⟨rfl, f2⟩
  have LB := hidI (logBlocks_any (HH.out.quiet f2))
  go_wp2_with fail
  refine LB.out.mono ?_
  rw [HC.out]
  rintro e w3 ⟨rfl, f3⟩
  have B3 := hidI (HH.out.quiet (f2.trans f3))
  have g3 := B3.out.box.c3
  have g1 := B3.out.box.c1
  have HEN : Hid (∀ w', Fr [] w3 w' → Calls Tryz.prog 77 #[.pointer (some ⟨b.x.y.p, 0, none⟩)] w' fun e w'' => e = .returned (.int .i64 ((b.x.y.E : Int) + 1)) ∧ w'' = w') := hidI (fun w' f => lo_end (B3.out.quiet f).po.lo)
  go_wp2_with fail
  have d0 := B3.out.dl.c0
  have d1 := B3.out.dl.c1
  have d2 := B3.out.dl.c2
  have d3 := B3.out.dl.c3
  have d4 := B3.out.dl.c4
  have d5 := B3.out.dl.c5
  have d6 := B3.out.dl.c6
  have z0 := B3.out.dl.fz 0
  have z1 := B3.out.dl.fz 1
  have z2 := B3.out.dl.fz 2
  have z3 := B3.out.dl.fz 3
  have z4 := B3.out.dl.fz 4
  have z5 := B3.out.dl.fz 5
  have z6 := B3.out.dl.fz 6
  have D9 := hidI (((((((B3.out.dl.s0 1).s1 ((b.x.y.E : Int) + 1)).s2 0).s3 0).s4 0).s5 0).s6 0)
  have F9 := hidI (((((((fr_set w3 b.dp 0 (.int .i64 1)).trans (fr_set _ b.dp 1 (.int .i64 ((b.x.y.E : Int) + 1)))).trans (fr_set _ b.dp 2 (.int .i64 0))).trans (fr_set _ b.dp 3 (.int .i64 0))).trans (fr_set _ b.dp 4 (.int .i64 0))).trans (fr_set _ b.dp 5 (.int .i64 0))).trans (fr_set _ b.dp 6 (.int .i64 0)))
  go_region_law ((go_simp; go_at_call 77; refine (HEN.out _ (Fr.refl [] w3).drew).mono ?_; rintro e w4 ⟨rfl, hz⟩; rw [hz]; clear hz))
  all_goals
    go_wp2_with fail
    go_ret
    have S9 := BStep.deal B3.out (t' := begT b) D9.out F9.out
    exact ⟨rfl, ((BStep.quiet HH.out (f2.trans f3)).trans S9).trans (BStep.quiet S9.at' (Fr.refl [] _).drew)⟩
theorem bpage_any {w : World} {b : Bk} (h : BkAt w b) {page : Nat} (hp : page < b.x.pages) :
    Calls Tryz.prog 28 #[.pointer (some ⟨b.bp, 0, none⟩), .int .i64 (page : Int)] w fun e w' => ∃ g, e = .returned (.tuple #[.slice (some ⟨g, 0, none⟩) 512 512, .int .i64 0]) ∧ ∃ x' l, BRead w w' b x' page g l := by
  have c2 := h.box.c2
  have HR := hidI (bread_any h hp)
  have HB := hidI h.box
  clear h
  go_enter Tryz.func28, Tryz.ntmps28
  go_wp2_with (go_at_call 88; refine (bmade_yes HB.out).mono ?_; rintro e wz ⟨rfl, hz⟩; rw [hz]; clear hz)
  refine HR.out.mono ?_
  rintro e w2 ⟨g, rfl, h2⟩
  go_wp2_with fail
  go_ret2
  exact ⟨g, rfl, h2⟩
theorem bpages_any {w : World} {b : Bk} (h : BkAt w b) : Calls Tryz.prog 24 #[.pointer (some ⟨b.bp, 0, none⟩)] w fun e w' => e = .returned (.int .i64 (b.x.pages : Int)) ∧ w' = w := by
  have c2 := h.box.c2
  have HB := hidI h.box
  have HP := hidI h.po.box
  clear h
  go_enter Tryz.func24, Tryz.ntmps24
  go_wp2_with (first
    | (go_at_call 88; refine (bmade_yes HB.out).mono ?_; rintro e wz ⟨rfl, hz⟩; rw [hz]; clear hz)
    | (go_at_call 17; refine (pages_any HP.out).mono ?_; rintro e wz ⟨rfl, hz⟩; rw [hz]; clear hz))
  go_ret
  exact ⟨rfl, rfl⟩
/-- What a transaction is that has just begun. -/
theorem InTx.begun {b : Bk} {V : Pages} (h : Idle b V) (hE : b.x.y.E ≤ 400000) (hroom : 35 ≤ b.room) : InTx { b with t := begT b } [] V := by
  refine ⟨rfl, rfl, ?_, rfl, rfl, rfl, ?_, trivial, h.sh, h.t0, h.t1, Int.le_refl _, ?_, ?_, ?_, fun c hc => nomatch hc⟩
  · show placeB ((b.x.y.E : Int) + 1) = true
    unfold placeB
    rw [decide_eq_true (by omega), decide_eq_true (by omega)]
    rfl
  · show (0 : Int) ≤ 0 ∧ (0 : Int) ≤ (b.x.y.E : Int)
    omega
  · show (0 : Int) ≤ (b.x.y.E : Int)
    omega
  · show 5 * (0 : Int) ≤ 6 * (b.x.y.E : Int)
    omega
  · show (0 : Int) + 35 ≤ 408 * (b.x.y.count - 1) - ((b.x.y.E : Int) - (b.x.y.A : Int))
    unfold Bk.room at hroom
    omega
end Go.Proofs.YtopaeomjndblkaaGreat

namespace Go.Proofs.YtopaeomjndblkaaGreat
open Go.RowKit Go.Maps

set_option maxHeartbeats 2000000 in
set_option maxRecDepth 100000 in
theorem begin_point {w : World} {b : Bk} (h : BkAt w b) (ht : b.t = dl0) {m : Mst} (hm : Mas b.x.y.S b.x.y.O m) (hn : 24 ≤ b.x.y.nb) (hs : m.seq ≤ 1000000) (hst : 2 ≤ b.x.start) (hlw : 2 ≤ b.x.y.lw) (hroom : b.room < 204 * b.x.y.count) : Calls Tryz.prog 30 #[.pointer (some ⟨b.bp, 0, none⟩)] w fun e w' => e = .returned (.int .i64 0) ∧ ∃ b1, Pntd b b1 m ∧ BStep w w' b { b1 with t := begT b1 } := by
  have HH := hidI h
  have HM := hidI hm
  have h0 : b.t.st = 0 := by rw [ht]; rfl
  have n2 := h.po.lo.dev.n2
  have f0 := h.po.lo.f0
  have f1 := h.po.lo.f1
  have cc0 := h.po.lo.c0
  have c1 := h.box.c1
  obtain ⟨R, HR⟩ : ∃ R : Int, Hid (b.room = R) := ⟨_, rfl⟩
  obtain ⟨C, HC⟩ : ∃ C : Int, Hid (b.x.y.count = C) := ⟨_, rfl⟩
  rw [HR.out, HC.out] at hroom
  have hC1 : C ≤ 65536 := by rw [← HC.out]; omega
  have hC0 : 0 ≤ C := by rw [← HC.out]; omega
  have e1 : IntKind.i64.wrap (204 * C) = 204 * C := wrapI _ (by omega) (by omega)
  have HT := hidI ht
  clear h f0 f1 cc0 n2 hm ht
  go_enter Tryz.func30, Tryz.ntmps30
  go_wp2_with (go_at_call 94; refine (idle_out HH.out.box HH.out.dl h0).mono ?_; rintro e wz ⟨rfl, hz⟩; rw [hz]; clear hz)
  refine (broom_any HH.out).mono ?_
  rw [HR.out]
  rintro e w2 ⟨rfl, f2⟩
  have LB := hidI (logBlocks_any (HH.out.quiet f2))
  go_wp2_with fail
  refine LB.out.mono ?_
  rw [HC.out]
  rintro e w3 ⟨rfl, f3⟩
  have B3 := hidI (HH.out.quiet (f2.trans f3))
  go_wp2_with fail
  refine (point_any B3.out HT.out HM.out hn hs hst hlw).mono ?_
  rintro e w4 ⟨rfl, b1, st, pt⟩
  have B4 := hidI st.at'
  have ebp := st.bp
  rw [← ebp]
  have g3 := B4.out.box.c3
  have g1 := B4.out.box.c1
  have HST := hidI st
  have HPT := hidI pt
  rw [ebp] at g3 g1
  rw [ebp]
  clear st pt ebp
  have HEN : Hid (∀ w', Fr [] w4 w' → Calls Tryz.prog 77 #[.pointer (some ⟨b1.x.y.p, 0, none⟩)] w' fun e w'' => e = .returned (.int .i64 ((b1.x.y.E : Int) + 1)) ∧ w'' = w') := hidI (fun w' f => lo_end (B4.out.quiet f).po.lo)
  go_wp2_with fail
  have d0 := B4.out.dl.c0
  have d1 := B4.out.dl.c1
  have d2 := B4.out.dl.c2
  have d3 := B4.out.dl.c3
  have d4 := B4.out.dl.c4
  have d5 := B4.out.dl.c5
  have d6 := B4.out.dl.c6
  have z0 := B4.out.dl.fz 0
  have z1 := B4.out.dl.fz 1
  have z2 := B4.out.dl.fz 2
  have z3 := B4.out.dl.fz 3
  have z4 := B4.out.dl.fz 4
  have z5 := B4.out.dl.fz 5
  have z6 := B4.out.dl.fz 6
  have D9 := hidI (((((((B4.out.dl.s0 1).s1 ((b1.x.y.E : Int) + 1)).s2 0).s3 0).s4 0).s5 0).s6 0)
  have F9 := hidI (((((((fr_set w4 b1.dp 0 (.int .i64 1)).trans (fr_set _ b1.dp 1 (.int .i64 ((b1.x.y.E : Int) + 1)))).trans (fr_set _ b1.dp 2 (.int .i64 0))).trans (fr_set _ b1.dp 3 (.int .i64 0))).trans (fr_set _ b1.dp 4 (.int .i64 0))).trans (fr_set _ b1.dp 5 (.int .i64 0))).trans (fr_set _ b1.dp 6 (.int .i64 0)))
  go_region_law ((go_simp; go_at_call 77; refine (HEN.out _ (Fr.refl [] w4).drew).mono ?_; rintro e w5 ⟨rfl, hz⟩; rw [hz]; clear hz))
  all_goals
    go_wp2_with fail
    go_ret
    have S9 := BStep.deal B4.out (t' := begT b1) D9.out F9.out
    exact ⟨rfl, b1, HPT.out, (((BStep.quiet HH.out (f2.trans f3)).trans HST.out).trans S9).trans (BStep.quiet S9.at' (Fr.refl [] _).drew)⟩
/-- What stays of a book over Begin, or a checkpoint. -/
structure Begun (b b' : Bk) (m m' : Mst) : Prop where
  al : Alike b.x b'.x
  t : b'.t = begT b'
  nb : b'.x.y.nb = b.x.y.nb
  first : b'.x.y.first = b.x.y.first
  count : b'.x.y.count = b.x.y.count
  T : b'.x.y.T = b.x.y.T
  E : b'.x.y.E = b.x.y.E
  A : b'.x.y.A = b.x.y.A ∨ b'.x.y.A = b.x.y.E
  lw : b'.x.y.lw = b.x.y.lw
  mas : Mas b'.x.y.S b'.x.y.O m'
  s1 : m'.seq ≤ m.seq + 1
  turn : m'.turn = m.turn
  room : 204 * b'.x.y.count ≤ b'.room
  more : b.room ≤ b'.room
theorem begin_any {w : World} {b : Bk} (h : BkAt w b) (ht : b.t = dl0) {m : Mst} (hm : Mas b.x.y.S b.x.y.O m) (hn : 24 ≤ b.x.y.nb) (hs : m.seq ≤ 1000000) (hst : 2 ≤ b.x.start) (hlw : 2 ≤ b.x.y.lw) (hc : 2 ≤ b.x.y.count) : Calls Tryz.prog 30 #[.pointer (some ⟨b.bp, 0, none⟩)] w fun e w' => e = .returned (.int .i64 0) ∧ ∃ b' m', BStep w w' b b' ∧ Begun b b' m m' := by
  by_cases hroom : b.room < 204 * b.x.y.count
  · refine (begin_point h ht hm hn hs hst hlw hroom).mono ?_
    rintro e w' ⟨he, b1, pt, st⟩
    have hAE := h.po.lo.hAE
    refine ⟨he, _, _, st, ⟨pt.al, rfl, pt.nb, pt.first, pt.count, pt.T, pt.E, Or.inr pt.A, pt.lw, pt.mas, Int.le_refl _, rfl, ?_, ?_⟩⟩
    · show 204 * b1.x.y.count ≤ 408 * (b1.x.y.count - 1) - ((b1.x.y.E : Int) - (b1.x.y.A : Int))
      rw [pt.A, pt.E, pt.count]
      omega
    · show 408 * (b.x.y.count - 1) - ((b.x.y.E : Int) - (b.x.y.A : Int)) ≤ 408 * (b1.x.y.count - 1) - ((b1.x.y.E : Int) - (b1.x.y.A : Int))
      rw [pt.A, pt.E, pt.count]
      omega
  · refine (begin_room h ht (by omega)).mono ?_
    rintro e w' ⟨he, st⟩
    exact ⟨he, _, m, st, ⟨Alike.refl _, rfl, rfl, rfl, rfl, rfl, rfl, Or.inl rfl, rfl, hm, by omega, rfl, by show 204 * b.x.y.count ≤ b.room; omega, Int.le_refl _⟩⟩
theorem Begun.tx {b b' : Bk} {m m' : Mst} (h : Begun b b' m m') {V : Pages} (hi : Idle b V) (hE : b.x.y.E ≤ 400000) (hc : 1 ≤ b.x.y.count) : InTx b' [] V := by
  have hi' : Idle { b' with t := dl0 } V := ⟨rfl, hi.sh.alike h.al, by show 1 ≤ b'.x.y.T; rw [h.T]; exact hi.t0, by show b'.x.y.T ≤ _; rw [h.T]; exact hi.t1⟩
  have h2 := InTx.begun hi' (by show b'.x.y.E ≤ 400000; rw [h.E]; exact hE) (by
    have h1 := h.room
    have h2 := h.count
    show 35 ≤ b'.room
    omega)
  have e : ({ b' with t := begT b' } : Bk) = b' := by rw [← h.t]
  rw [← e]
  exact h2
end Go.Proofs.YtopaeomjndblkaaGreat

namespace Go.Proofs.YtopaeomjndblkaaGreat
open Go.RowKit Go.Maps
open Pg (SpE diffS byteAt)

theorem sumN_rises {a b : List UInt8} {i j : Nat} (same : ∀ k, k < 512 → (k < i ∨ j ≤ k) → byteAt a k = byteAt b k) : ∀ (S : List SpE) (m : Nat), Pg.Rises a b m (S.map fun e => (e.off, e.off + e.n)) → (∀ x ∈ S.map (fun e => (e.off, e.off + e.n)), x.2 ≤ 512) → sumN S ≤ 97 * ((j - max i m : Nat) : Int)
  | [], m, _, _ => by simp [sumN]; omega
  | e :: S, m, h, hx => by
    obtain ⟨k1, k2, k3, k4, k5⟩ := h
    have ih := sumN_rises same S (e.off + e.n + 8) k5 (fun x hx' => hx x (List.mem_cons_of_mem _ hx'))
    have h2 : e.off + e.n ≤ 512 := hx (e.off, e.off + e.n) List.mem_cons_self
    have a1 : i ≤ e.off ∧ e.off < j := by
      refine ⟨Nat.not_lt.1 fun hl => k3 (same _ (by omega) (Or.inl hl)), Nat.not_le.1 fun hl => k3 (same _ (by omega) (Or.inr hl))⟩
    have a2 : e.off + e.n - 1 < j := Nat.not_le.1 fun hl => k4 (same _ (by omega) (Or.inr hl))
    simp only [sumN]
    omega
theorem sum_within {a b : List UInt8} {i j : Nat} (same : ∀ k, k < 512 → (k < i ∨ j ≤ k) → byteAt a k = byteAt b k) {S : List SpE} (hS : S.map (fun e => (e.off, e.off + e.n)) = diffS a b) : sumN S ≤ 97 * ((j - i : Nat) : Int) := by
  have h := sumN_rises same S 0 (by rw [hS]; exact Pg.diff_rises a b) (by rw [hS]; exact Pg.diff_ends a b)
  rw [Nat.max_zero] at h
  exact h
theorem sum9_rises {a b : List UInt8} {i j : Nat} (same : ∀ k, k < 512 → (k < i ∨ j ≤ k) → byteAt a k = byteAt b k) : ∀ (S : List SpE) (m : Nat), Pg.Rises a b m (S.map fun e => (e.off, e.off + e.n)) → (∀ x ∈ S.map (fun e => (e.off, e.off + e.n)), x.2 ≤ 512) → 9 * sumN S ≤ 97 * ((j + 8 - max i m : Nat) : Int)
  | [], m, _, _ => by
    have h0 : sumN [] = 0 := rfl
    rw [h0]
    omega
  | e :: S, m, h, hx => by
    obtain ⟨k1, k2, k3, k4, k5⟩ := h
    have ih := sum9_rises same S (e.off + e.n + 8) k5 (fun x hx' => hx x (List.mem_cons_of_mem _ hx'))
    have h2 : e.off + e.n ≤ 512 := hx (e.off, e.off + e.n) List.mem_cons_self
    have a1 : i ≤ e.off ∧ e.off < j := by
      refine ⟨Nat.not_lt.1 fun hl => k3 (same _ (by omega) (Or.inl hl)), Nat.not_le.1 fun hl => k3 (same _ (by omega) (Or.inr hl))⟩
    have a2 : e.off + e.n - 1 < j := Nat.not_le.1 fun hl => k4 (same _ (by omega) (Or.inr hl))
    simp only [sumN]
    omega
/-- The same, nearer: spans lie eight bytes apart. -/
theorem sum9 {a b : List UInt8} {i j : Nat} (same : ∀ k, k < 512 → (k < i ∨ j ≤ k) → byteAt a k = byteAt b k) {S : List SpE} (hS : S.map (fun e => (e.off, e.off + e.n)) = diffS a b) : sumN S ≤ 11 * ((j + 8 - i : Nat) : Int) := by
  have h := sum9_rises same S 0 (by rw [hS]; exact Pg.diff_rises a b) (by rw [hS]; exact Pg.diff_ends a b)
  rw [Nat.max_zero] at h
  omega
end Go.Proofs.YtopaeomjndblkaaGreat

