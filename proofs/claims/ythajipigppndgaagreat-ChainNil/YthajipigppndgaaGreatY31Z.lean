/-
  A book's calls, put together: what stays of it, what its pages are.
-/
import Derived.Test.YthajipigppndgaaGreatY30Z
import Derived.Test.YthajipigppndgaaGreatY28Z
import Derived.Test.YthajipigppndgaaGreatY20Z
import Derived.Test.YthajipigppndgaaGreatY26Z
namespace Go.Proofs.YthajipigppndgaaGreat
open Go.RowKit Go.Maps
def AbI (w : World) (b : Bk) (H : List Ch) (V : Pages) : Nat → World → Prop
  | 0, wr => BStep w wr b b
  | 1, wr => ∃ b', BStep w wr b b' ∧ Tr b b' ∧ UnTx b' H V ∧ b'.x.y.E = b.x.y.E
  | 2, wr => ∃ b', BStep w wr b b' ∧ Tr b b' ∧ UnTx b' [] (undoAll H V) ∧ (b'.x.y.E : Int) = (b.x.y.E : Int) + keptOf H
  | 3, wr => ∃ b', BStep w wr b b' ∧ Tr b b' ∧ Shows b'.x (undoAll H V) ∧ (b'.x.y.E : Int) = (b.x.y.E : Int) + keptOf H + 35
  | _, wr => ∃ b', BStep w wr b b' ∧ Tr b b' ∧ Shows b'.x (undoAll H V) ∧ (b'.x.y.E : Int) = (b.x.y.E : Int) + keptOf H + 35 ∧ b'.t = dl0
theorem AbI.st {w : World} {b : Bk} {H : List Ch} {V : Pages} {i : Nat} {wr : World} (h : AbI w b H V i wr) : ∃ b', BStep w wr b b' := by
  match i, h with
  | 0, h => exact ⟨_, h⟩
  | 1, ⟨b', h, _⟩ => exact ⟨b', h⟩
  | 2, ⟨b', h, _⟩ => exact ⟨b', h⟩
  | 3, ⟨b', h, _⟩ => exact ⟨b', h⟩
  | n + 4, ⟨b', h, _⟩ => exact ⟨b', h⟩
section
variable {w : World} {b : Bk} {B : Nat} (hB : w.heap[B]? = some (.cells #[.pointer (some ⟨b.bp, 0, none⟩)] 32))
include hB
end
end Go.Proofs.YthajipigppndgaaGreat

namespace Go.Proofs.YthajipigppndgaaGreat
open Go.RowKit Go.Maps
theorem lo_oldest {w : World} {y : Lo} (h : LoAt w y) : Calls Tryz.prog 110 #[.pointer (some ⟨y.p, 0, none⟩)] w fun e w' => e = .returned (.int .i64 ((y.A : Int) + 1)) ∧ w' = w := by
  have k0 : w.cell? ⟨y.p, 0, none⟩ = some (.pointer (some ⟨y.d, 0, none⟩)) := h.box.c0
  have k4 : w.cell? ⟨y.p, 4, none⟩ = some (.int .i64 ((y.A : Int) + 1)) := h.box.c4
  go_enter Tryz.func110, Tryz.ntmps110
  go_wp2_with (go_at_call 99; refine (lmade_yes _ _ _ k0).mono ?_; rintro e w ⟨rfl, rfl⟩)
  go_ret
  exact ⟨rfl, rfl⟩
set_option maxHeartbeats 2000000 in
set_option maxRecDepth 100000 in
theorem logBlocks_any {w : World} {b : Bk} (h : BkAt w b) : Calls Tryz.prog 60 #[.pointer (some ⟨b.bp, 0, none⟩)] w fun e w' => e = .returned (.int .i64 b.x.y.count) ∧ Fr [] w w' := by
  have n2 := h.po.lo.dev.n2
  have f0 := h.po.lo.f0
  have f1 := h.po.lo.f1
  have c0 := h.po.lo.c0
  have hE := h.po.lo.hE
  have hAE := h.po.lo.hAE
  have HRO : Hid (∀ w', Fr [] w w' → Calls Tryz.prog 59 #[.pointer (some ⟨b.x.y.p, 0, none⟩)] w' fun e w'' => e = .returned (.int .i64 b.room) ∧ Fr [] w' w'') := hidI (fun w' f => broom_any (h.quiet f))
  have HEN : Hid (∀ w', Fr [] w w' → Calls Tryz.prog 62 #[.pointer (some ⟨b.x.y.p, 0, none⟩)] w' fun e w'' => e = .returned (.int .i64 ((b.x.y.E : Int) + 1)) ∧ Fr [] w' w'') := hidI (fun w' f => (lo_end (h.quiet f).po.lo).mono (by rintro e w'' ⟨h1, rfl⟩; exact ⟨h1, Fr.refl _ _⟩))
  have HOL : Hid (∀ w', Fr [] w w' → Calls Tryz.prog 110 #[.pointer (some ⟨b.x.y.p, 0, none⟩)] w' fun e w'' => e = .returned (.int .i64 ((b.x.y.A : Int) + 1)) ∧ Fr [] w' w'') := hidI (fun w' f => (lo_oldest (h.quiet f).po.lo).mono (by rintro e w'' ⟨h1, rfl⟩; exact ⟨h1, Fr.refl _ _⟩))
  have SK : Hid (∀ w', Fr [] w w' → w'.cell? ⟨b.bp, 1, none⟩ = some (.pointer (some ⟨b.x.y.p, 0, none⟩))) := hidI (fun w' f => (h.quiet f).box.c1)
  have gg : Fr [] w w.drew := (Fr.refl [] w).drew
  obtain ⟨R, HR⟩ : ∃ R : Int, Hid (b.room = R) := ⟨_, rfl⟩
  rw [HR.out] at HRO
  have hR : R = 408 * (b.x.y.count - 1) - ((b.x.y.E : Int) - (b.x.y.A : Int)) := by rw [← HR.out]; rfl
  obtain ⟨X, HX⟩ : ∃ X : Int, Hid ((b.x.y.E : Int) - (b.x.y.A : Int) = X) := ⟨_, rfl⟩
  have e1 : IntKind.i64.wrap ((b.x.y.E : Int) + 1 - ((b.x.y.A : Int) + 1)) = X := by rw [← HX.out, wrapI _ (by omega) (by omega)]; omega
  obtain ⟨Y, HY⟩ : ∃ Y : Int, Hid (408 * (b.x.y.count - 1) = Y) := ⟨_, rfl⟩
  have e2 : IntKind.i64.wrap (R + X) = Y := by rw [hR, ← HX.out, ← HY.out, wrapI _ (by omega) (by omega)]; omega
  have HYY := HY.out
  have e3 : Y / 408 = b.x.y.count - 1 := by rw [← HYY]; omega
  have hY0 : (0 : Int) ≤ Y := by omega
  have hY1 : Y ≤ 30000000 := by omega
  clear h hR
  go_enter Tryz.func60, Tryz.ntmps60
  go_wp2_with fail
  go_region_held3 (fun w' => w'.cell? ⟨b.bp, 1, none⟩ = some (.pointer (some ⟨b.x.y.p, 0, none⟩))) (exact SK.out _ gg) ((first
    | (go_at_call 59; refine (HRO.out _ gg).mono ?_; rintro e w4 ⟨rfl, f4⟩; replace gg := gg.trans f4)
    | (go_at_call 62; refine (HEN.out _ gg).mono ?_; rintro e w4 ⟨rfl, f4⟩; replace gg := gg.trans f4)
    | (go_at_call 110; refine (HOL.out _ gg).mono ?_; rintro e w4 ⟨rfl, f4⟩; replace gg := gg.trans f4)))
  all_goals
    go_wp2_with fail
    go_ret
    refine ⟨?_, gg⟩
    first
      | (congr 2; done)
      | (congr 2; omega)
      | (simp; omega)
      | rfl
def begT (b : Bk) : Dl := ⟨1, (b.x.y.E : Int) + 1, 0, 0, 0, 0, 0⟩
set_option maxHeartbeats 2000000 in
set_option maxRecDepth 100000 in
theorem begin_room {w : World} {b : Bk} (h : BkAt w b) (ht : b.t = dl0) (hroom : 204 * b.x.y.count ≤ b.room) : Calls Tryz.prog 21 #[.pointer (some ⟨b.bp, 0, none⟩)] w fun e w' => e = .returned (.int .i64 0) ∧ BStep w w' b { b with t := begT b } := by
  have HH := hidI h
  have h0 : b.t.st = 0 := by rw [ht]; rfl
  have n2 := h.po.lo.dev.n2
  have f0 := h.po.lo.f0
  have f1 := h.po.lo.f1
  have cc0 := h.po.lo.c0
  have c1 := h.box.c1
  obtain ⟨R, HR⟩ : ∃ R : Int, Hid (b.room = R) := ⟨_, rfl⟩
  obtain ⟨C, HC⟩ : ∃ C : Int, Hid (b.x.y.count = C) := ⟨_, rfl⟩
  rw [HR.out, HC.out] at hroom
  have hC1 : C ≤ 65536 := by rw [← HC.out]; omega
  have hC0 : 0 ≤ C := by rw [← HC.out]; omega
  have e1 : IntKind.i64.wrap (204 * C) = 204 * C := wrapI _ (by omega) (by omega)
  have q1 : ¬ R < 204 * C := by omega
  clear h f0 f1 cc0 n2
  go_enter Tryz.func21, Tryz.ntmps21
  go_wp2_with (go_at_call 58; refine (idle_out HH.out.box HH.out.dl h0).mono ?_; rintro e wz ⟨rfl, hz⟩; rw [hz]; clear hz)
  refine (broom_any HH.out).mono ?_
  rw [HR.out]
  rintro e w2 ⟨rfl, f2⟩
  have LB := hidI (logBlocks_any (HH.out.quiet f2))
  go_wp2_with fail
  refine LB.out.mono ?_
  rw [HC.out]
  rintro e w3 ⟨rfl, f3⟩
  have B3 := hidI (HH.out.quiet (f2.trans f3))
  have g3 := B3.out.box.c3
  have g1 := B3.out.box.c1
  have HEN : Hid (∀ w', Fr [] w3 w' → Calls Tryz.prog 62 #[.pointer (some ⟨b.x.y.p, 0, none⟩)] w' fun e w'' => e = .returned (.int .i64 ((b.x.y.E : Int) + 1)) ∧ w'' = w') := hidI (fun w' f => lo_end (B3.out.quiet f).po.lo)
  go_wp2_with fail
  have d0 := B3.out.dl.c0
  have d1 := B3.out.dl.c1
  have d2 := B3.out.dl.c2
  have d3 := B3.out.dl.c3
  have d4 := B3.out.dl.c4
  have d5 := B3.out.dl.c5
  have d6 := B3.out.dl.c6
  have z0 := B3.out.dl.fz 0
  have z1 := B3.out.dl.fz 1
  have z2 := B3.out.dl.fz 2
  have z3 := B3.out.dl.fz 3
  have z4 := B3.out.dl.fz 4
  have z5 := B3.out.dl.fz 5
  have z6 := B3.out.dl.fz 6
  have D9 := hidI (((((((B3.out.dl.s0 1).s1 ((b.x.y.E : Int) + 1)).s2 0).s3 0).s4 0).s5 0).s6 0)
  have F9 := hidI (((((((fr_set w3 b.dp 0 (.int .i64 1)).trans (fr_set _ b.dp 1 (.int .i64 ((b.x.y.E : Int) + 1)))).trans (fr_set _ b.dp 2 (.int .i64 0))).trans (fr_set _ b.dp 3 (.int .i64 0))).trans (fr_set _ b.dp 4 (.int .i64 0))).trans (fr_set _ b.dp 5 (.int .i64 0))).trans (fr_set _ b.dp 6 (.int .i64 0)))
  go_region_law ((go_simp; go_at_call 62; refine (HEN.out _ (Fr.refl [] w3).drew).mono ?_; rintro e w4 ⟨rfl, hz⟩; rw [hz]; clear hz))
  all_goals
    go_wp2_with fail
    go_ret
    have S9 := BStep.deal B3.out (t' := begT b) D9.out F9.out
    exact ⟨rfl, ((BStep.quiet HH.out (f2.trans f3)).trans S9).trans (BStep.quiet S9.at' (Fr.refl [] _).drew)⟩
theorem bpage_any {w : World} {b : Bk} (h : BkAt w b) {page : Nat} (hp : page < b.x.pages) :
    Calls Tryz.prog 106 #[.pointer (some ⟨b.bp, 0, none⟩), .int .i64 (page : Int)] w fun e w' => ∃ g, e = .returned (.tuple #[.slice (some ⟨g, 0, none⟩) 512 512, .int .i64 0]) ∧ ∃ x' l, BRead w w' b x' page g l := by
  have c2 := h.box.c2
  have HR := hidI (bread_any h hp)
  have HB := hidI h.box
  clear h
  go_enter Tryz.func106, Tryz.ntmps106
  go_wp2_with (go_at_call 42; refine (bmade_yes HB.out).mono ?_; rintro e wz ⟨rfl, hz⟩; rw [hz]; clear hz)
  refine HR.out.mono ?_
  rintro e w2 ⟨g, rfl, h2⟩
  go_wp2_with fail
  go_ret2
  exact ⟨g, rfl, h2⟩
theorem bpages_any {w : World} {b : Bk} (h : BkAt w b) : Calls Tryz.prog 16 #[.pointer (some ⟨b.bp, 0, none⟩)] w fun e w' => e = .returned (.int .i64 (b.x.pages : Int)) ∧ w' = w := by
  have c2 := h.box.c2
  have HB := hidI h.box
  have HP := hidI h.po.box
  clear h
  go_enter Tryz.func16, Tryz.ntmps16
  go_wp2_with (first
    | (go_at_call 42; refine (bmade_yes HB.out).mono ?_; rintro e wz ⟨rfl, hz⟩; rw [hz]; clear hz)
    | (go_at_call 43; refine (pages_any HP.out).mono ?_; rintro e wz ⟨rfl, hz⟩; rw [hz]; clear hz))
  go_ret
  exact ⟨rfl, rfl⟩
theorem InTx.begun {b : Bk} {V : Pages} (h : Idle b V) (hE : b.x.y.E ≤ 400000) (hroom : 35 ≤ b.room) : InTx { b with t := begT b } [] V := by
  refine ⟨rfl, rfl, ?_, rfl, rfl, rfl, ?_, trivial, h.sh, h.t0, h.t1, Int.le_refl _, ?_, ?_, ?_, fun c hc => nomatch hc⟩
  · show placeB ((b.x.y.E : Int) + 1) = true
    unfold placeB
    rw [decide_eq_true (by omega), decide_eq_true (by omega)]
    rfl
  · show (0 : Int) ≤ 0 ∧ (0 : Int) ≤ (b.x.y.E : Int)
    omega
  · show (0 : Int) ≤ (b.x.y.E : Int)
    omega
  · show 5 * (0 : Int) ≤ 6 * (b.x.y.E : Int)
    omega
  · show (0 : Int) + 35 ≤ 408 * (b.x.y.count - 1) - ((b.x.y.E : Int) - (b.x.y.A : Int))
    unfold Bk.room at hroom
    omega
end Go.Proofs.YthajipigppndgaaGreat

namespace Go.Proofs.YthajipigppndgaaGreat
open Go.RowKit Go.Maps
set_option maxHeartbeats 2000000 in
set_option maxRecDepth 100000 in
theorem begin_point {w : World} {b : Bk} (h : BkAt w b) (ht : b.t = dl0) {m : Mst} (hm : Mas b.x.y.S b.x.y.O m) (hn : 24 ≤ b.x.y.nb) (hs : m.seq ≤ 1000000) (hst : 2 ≤ b.x.start) (hlw : 2 ≤ b.x.y.lw) (hroom : b.room < 204 * b.x.y.count) : Calls Tryz.prog 21 #[.pointer (some ⟨b.bp, 0, none⟩)] w fun e w' => e = .returned (.int .i64 0) ∧ ∃ b1, Pntd b b1 m ∧ BStep w w' b { b1 with t := begT b1 } := by
  have HH := hidI h
  have HM := hidI hm
  have h0 : b.t.st = 0 := by rw [ht]; rfl
  have n2 := h.po.lo.dev.n2
  have f0 := h.po.lo.f0
  have f1 := h.po.lo.f1
  have cc0 := h.po.lo.c0
  have c1 := h.box.c1
  obtain ⟨R, HR⟩ : ∃ R : Int, Hid (b.room = R) := ⟨_, rfl⟩
  obtain ⟨C, HC⟩ : ∃ C : Int, Hid (b.x.y.count = C) := ⟨_, rfl⟩
  rw [HR.out, HC.out] at hroom
  have hC1 : C ≤ 65536 := by rw [← HC.out]; omega
  have hC0 : 0 ≤ C := by rw [← HC.out]; omega
  have e1 : IntKind.i64.wrap (204 * C) = 204 * C := wrapI _ (by omega) (by omega)
  have HT := hidI ht
  clear h f0 f1 cc0 n2 hm ht
  go_enter Tryz.func21, Tryz.ntmps21
  go_wp2_with (go_at_call 58; refine (idle_out HH.out.box HH.out.dl h0).mono ?_; rintro e wz ⟨rfl, hz⟩; rw [hz]; clear hz)
  refine (broom_any HH.out).mono ?_
  rw [HR.out]
  rintro e w2 ⟨rfl, f2⟩
  have LB := hidI (logBlocks_any (HH.out.quiet f2))
  go_wp2_with fail
  refine LB.out.mono ?_
  rw [HC.out]
  rintro e w3 ⟨rfl, f3⟩
  have B3 := hidI (HH.out.quiet (f2.trans f3))
  go_wp2_with fail
  refine (point_any B3.out HT.out HM.out hn hs hst hlw).mono ?_
  rintro e w4 ⟨rfl, b1, st, pt⟩
  have B4 := hidI st.at'
  have ebp := st.bp
  rw [← ebp]
  have g3 := B4.out.box.c3
  have g1 := B4.out.box.c1
  have HST := hidI st
  have HPT := hidI pt
  rw [ebp] at g3 g1
  rw [ebp]
  clear st pt ebp
  have HEN : Hid (∀ w', Fr [] w4 w' → Calls Tryz.prog 62 #[.pointer (some ⟨b1.x.y.p, 0, none⟩)] w' fun e w'' => e = .returned (.int .i64 ((b1.x.y.E : Int) + 1)) ∧ w'' = w') := hidI (fun w' f => lo_end (B4.out.quiet f).po.lo)
  go_wp2_with fail
  have d0 := B4.out.dl.c0
  have d1 := B4.out.dl.c1
  have d2 := B4.out.dl.c2
  have d3 := B4.out.dl.c3
  have d4 := B4.out.dl.c4
  have d5 := B4.out.dl.c5
  have d6 := B4.out.dl.c6
  have z0 := B4.out.dl.fz 0
  have z1 := B4.out.dl.fz 1
  have z2 := B4.out.dl.fz 2
  have z3 := B4.out.dl.fz 3
  have z4 := B4.out.dl.fz 4
  have z5 := B4.out.dl.fz 5
  have z6 := B4.out.dl.fz 6
  have D9 := hidI (((((((B4.out.dl.s0 1).s1 ((b1.x.y.E : Int) + 1)).s2 0).s3 0).s4 0).s5 0).s6 0)
  have F9 := hidI (((((((fr_set w4 b1.dp 0 (.int .i64 1)).trans (fr_set _ b1.dp 1 (.int .i64 ((b1.x.y.E : Int) + 1)))).trans (fr_set _ b1.dp 2 (.int .i64 0))).trans (fr_set _ b1.dp 3 (.int .i64 0))).trans (fr_set _ b1.dp 4 (.int .i64 0))).trans (fr_set _ b1.dp 5 (.int .i64 0))).trans (fr_set _ b1.dp 6 (.int .i64 0)))
  go_region_law ((go_simp; go_at_call 62; refine (HEN.out _ (Fr.refl [] w4).drew).mono ?_; rintro e w5 ⟨rfl, hz⟩; rw [hz]; clear hz))
  all_goals
    go_wp2_with fail
    go_ret
    have S9 := BStep.deal B4.out (t' := begT b1) D9.out F9.out
    exact ⟨rfl, b1, HPT.out, (((BStep.quiet HH.out (f2.trans f3)).trans HST.out).trans S9).trans (BStep.quiet S9.at' (Fr.refl [] _).drew)⟩
structure Begun (b b' : Bk) (m m' : Mst) : Prop where
  al : Alike b.x b'.x
  t : b'.t = begT b'
  nb : b'.x.y.nb = b.x.y.nb
  first : b'.x.y.first = b.x.y.first
  count : b'.x.y.count = b.x.y.count
  T : b'.x.y.T = b.x.y.T
  E : b'.x.y.E = b.x.y.E
  A : b'.x.y.A = b.x.y.A ∨ b'.x.y.A = b.x.y.E
  lw : b'.x.y.lw = b.x.y.lw
  mas : Mas b'.x.y.S b'.x.y.O m'
  s1 : m'.seq ≤ m.seq + 1
  turn : m'.turn = m.turn
  room : 204 * b'.x.y.count ≤ b'.room
  more : b.room ≤ b'.room
theorem begin_any {w : World} {b : Bk} (h : BkAt w b) (ht : b.t = dl0) {m : Mst} (hm : Mas b.x.y.S b.x.y.O m) (hn : 24 ≤ b.x.y.nb) (hs : m.seq ≤ 1000000) (hst : 2 ≤ b.x.start) (hlw : 2 ≤ b.x.y.lw) (hc : 2 ≤ b.x.y.count) : Calls Tryz.prog 21 #[.pointer (some ⟨b.bp, 0, none⟩)] w fun e w' => e = .returned (.int .i64 0) ∧ ∃ b' m', BStep w w' b b' ∧ Begun b b' m m' := by
  by_cases hroom : b.room < 204 * b.x.y.count
  · refine (begin_point h ht hm hn hs hst hlw hroom).mono ?_
    rintro e w' ⟨he, b1, pt, st⟩
    have hAE := h.po.lo.hAE
    refine ⟨he, _, _, st, ⟨pt.al, rfl, pt.nb, pt.first, pt.count, pt.T, pt.E, Or.inr pt.A, pt.lw, pt.mas, Int.le_refl _, rfl, ?_, ?_⟩⟩
    · show 204 * b1.x.y.count ≤ 408 * (b1.x.y.count - 1) - ((b1.x.y.E : Int) - (b1.x.y.A : Int))
      rw [pt.A, pt.E, pt.count]
      omega
    · show 408 * (b.x.y.count - 1) - ((b.x.y.E : Int) - (b.x.y.A : Int)) ≤ 408 * (b1.x.y.count - 1) - ((b1.x.y.E : Int) - (b1.x.y.A : Int))
      rw [pt.A, pt.E, pt.count]
      omega
  · refine (begin_room h ht (by omega)).mono ?_
    rintro e w' ⟨he, st⟩
    exact ⟨he, _, m, st, ⟨Alike.refl _, rfl, rfl, rfl, rfl, rfl, rfl, Or.inl rfl, rfl, hm, by omega, rfl, by show 204 * b.x.y.count ≤ b.room; omega, Int.le_refl _⟩⟩
theorem Begun.tx {b b' : Bk} {m m' : Mst} (h : Begun b b' m m') {V : Pages} (hi : Idle b V) (hE : b.x.y.E ≤ 400000) (hc : 1 ≤ b.x.y.count) : InTx b' [] V := by
  have hi' : Idle { b' with t := dl0 } V := ⟨rfl, hi.sh.alike h.al, by show 1 ≤ b'.x.y.T; rw [h.T]; exact hi.t0, by show b'.x.y.T ≤ _; rw [h.T]; exact hi.t1⟩
  have h2 := InTx.begun hi' (by show b'.x.y.E ≤ 400000; rw [h.E]; exact hE) (by
    have h1 := h.room
    have h2 := h.count
    show 35 ≤ b'.room
    omega)
  have e : ({ b' with t := begT b' } : Bk) = b' := by rw [← h.t]
  rw [← e]
  exact h2
end Go.Proofs.YthajipigppndgaaGreat

namespace Go.Proofs.YthajipigppndgaaGreat
open Go.RowKit Go.Maps
open Pg (SpE diffS byteAt)
theorem sumN_rises {a b : List UInt8} {i j : Nat} (same : ∀ k, k < 512 → (k < i ∨ j ≤ k) → byteAt a k = byteAt b k) : ∀ (S : List SpE) (m : Nat), Pg.Rises a b m (S.map fun e => (e.off, e.off + e.n)) → (∀ x ∈ S.map (fun e => (e.off, e.off + e.n)), x.2 ≤ 512) → sumN S ≤ 97 * ((j - max i m : Nat) : Int)
  | [], m, _, _ => by simp [sumN]; omega
  | e :: S, m, h, hx => by
    obtain ⟨k1, k2, k3, k4, k5⟩ := h
    have ih := sumN_rises same S (e.off + e.n + 8) k5 (fun x hx' => hx x (List.mem_cons_of_mem _ hx'))
    have h2 : e.off + e.n ≤ 512 := hx (e.off, e.off + e.n) List.mem_cons_self
    have a1 : i ≤ e.off ∧ e.off < j := by
      refine ⟨Nat.not_lt.1 fun hl => k3 (same _ (by omega) (Or.inl hl)), Nat.not_le.1 fun hl => k3 (same _ (by omega) (Or.inr hl))⟩
    have a2 : e.off + e.n - 1 < j := Nat.not_le.1 fun hl => k4 (same _ (by omega) (Or.inr hl))
    simp only [sumN]
    omega
theorem sum_within {a b : List UInt8} {i j : Nat} (same : ∀ k, k < 512 → (k < i ∨ j ≤ k) → byteAt a k = byteAt b k) {S : List SpE} (hS : S.map (fun e => (e.off, e.off + e.n)) = diffS a b) : sumN S ≤ 97 * ((j - i : Nat) : Int) := by
  have h := sumN_rises same S 0 (by rw [hS]; exact Pg.diff_rises a b) (by rw [hS]; exact Pg.diff_ends a b)
  rw [Nat.max_zero] at h
  exact h
theorem sum9_rises {a b : List UInt8} {i j : Nat} (same : ∀ k, k < 512 → (k < i ∨ j ≤ k) → byteAt a k = byteAt b k) : ∀ (S : List SpE) (m : Nat), Pg.Rises a b m (S.map fun e => (e.off, e.off + e.n)) → (∀ x ∈ S.map (fun e => (e.off, e.off + e.n)), x.2 ≤ 512) → 9 * sumN S ≤ 97 * ((j + 8 - max i m : Nat) : Int)
  | [], m, _, _ => by
    have h0 : sumN [] = 0 := rfl
    rw [h0]
    omega
  | e :: S, m, h, hx => by
    obtain ⟨k1, k2, k3, k4, k5⟩ := h
    have ih := sum9_rises same S (e.off + e.n + 8) k5 (fun x hx' => hx x (List.mem_cons_of_mem _ hx'))
    have h2 : e.off + e.n ≤ 512 := hx (e.off, e.off + e.n) List.mem_cons_self
    have a1 : i ≤ e.off ∧ e.off < j := by
      refine ⟨Nat.not_lt.1 fun hl => k3 (same _ (by omega) (Or.inl hl)), Nat.not_le.1 fun hl => k3 (same _ (by omega) (Or.inr hl))⟩
    have a2 : e.off + e.n - 1 < j := Nat.not_le.1 fun hl => k4 (same _ (by omega) (Or.inr hl))
    simp only [sumN]
    omega
theorem sum9 {a b : List UInt8} {i j : Nat} (same : ∀ k, k < 512 → (k < i ∨ j ≤ k) → byteAt a k = byteAt b k) {S : List SpE} (hS : S.map (fun e => (e.off, e.off + e.n)) = diffS a b) : sumN S ≤ 11 * ((j + 8 - i : Nat) : Int) := by
  have h := sum9_rises same S 0 (by rw [hS]; exact Pg.diff_rises a b) (by rw [hS]; exact Pg.diff_ends a b)
  rw [Nat.max_zero] at h
  omega
end Go.Proofs.YthajipigppndgaaGreat

namespace Go.Proofs.YthajipigppndgaaGreat
open Go.RowKit Go.Maps
def loF (d bs bo : Nat) (nb : Int) (S : Dv.Tab) (p : Nat) (first count : Int) (T : Nat) : Lo := ⟨d, bs, bo, nb, S, Dv.Tab.none, p, first, count, T, 0, 0, 0, 0, 0, 0, none, 0, 0, none, [], [], 2⟩
theorem loF_at {w : World} {d bs bo : Nat} {nb : Int} {S : Dv.Tab} (hd : Dv.Dev w d bs bo nb 0 false S Dv.Tab.none) {p : Nat} {first count : Int} {T : Nat} (hc : 4 ≤ count) (h0 : 2 ≤ first) (hn : first + count ≤ nb) (hT : T < 2147483648) (hb : LBox w p ⟨.pointer (some ⟨d, 0, none⟩), first, count, (T : Int), 1, 1, 1, .slice none 0 0, 1, .slice none 0 0⟩) : LoAt w (loF d bs bo nb S p first count T) :=
  { dev := hd, box := hb, bsA := BsAt.nil w, lsA := LsAt.nil w, lbl := rfl, hn := rfl, hFP := Nat.le_refl _, hPE := Nat.le_refl _, hFA := Nat.le_refl _, hAE := Nat.le_refl _, hE := by show (0 : Nat) ≤ 400000; omega, h2 := Nat.le_refl _, hT := hT, f0 := by show (0 : Int) ≤ first; omega, f1 := hn, c0 := hc, hlw := h0 }
def fmS (O' : Dv.Tab) : Dv.Tab := Dv.over (Dv.over Dv.Tab.none O') (Dv.Tab.none.put 1 (mBytes m111))
theorem fm_zero {O' : Dv.Tab} {nb : Int} (h : ∀ k : Int, 0 ≤ k → k < nb → O' k = some (zs 512)) {k : Int} (h0 : 0 ≤ k) (h1 : k < nb) (h2 : k ≠ 1) : Dv.latest (fmS O') Dv.Tab.none k = zs 512 := by
  rw [fmS, latest_sync, latest_put, if_neg h2, latest_sync]
  unfold Dv.latest
  rw [h k h0 h1]
  rfl
theorem fm_one (O' : Dv.Tab) : Dv.latest (fmS O') Dv.Tab.none 1 = mBytes m111 := by
  rw [fmS, latest_sync, latest_put, if_pos rfl]
theorem fm_mas {O' : Dv.Tab} {nb : Int} (h : ∀ k : Int, 0 ≤ k → k < nb → O' k = some (zs 512)) (hn : 2 ≤ nb) : Mas (fmS O') Dv.Tab.none m111 :=
  ⟨⟨0, 0, 0⟩, m111, by rw [fm_zero h (by omega) (by omega) (by omega)]; exact Stands.none 0, by rw [fm_one]; exact Stands.one m111 m111_ok, by simp [bestM, later, m111], m111_ok⟩
theorem zs_stamp : stampP ((zs 512).take 64) ≠ 1 := by
  have h2 : stampP ((zs 512).take 64) = 0 := by kernel_rfl
  rw [h2]
  omega
structure Fresh (b : Bk) (n most T : Nat) (m : Mst) : Prop where
  t : b.t = dl0
  pages : (b.x.pages : Int) = (n : Int) - 2 - (n : Int) / 2
  start : b.x.start = 2
  most : b.x.most = most
  nb : b.x.y.nb = (n : Int)
  first : b.x.y.first = (n : Int) - (n : Int) / 2
  count : b.x.y.count = (n : Int) / 2
  T : b.x.y.T = T
  A : b.x.y.A = 0
  E : b.x.y.E = 0
  lw : b.x.y.lw = 2
  mas : Mas b.x.y.S b.x.y.O m
  sh : Shows b.x (fun _ => zs 512)
theorem place_let (w : World) (nb : Nat) (pages : Nat) (at' cnt : Int) (h0 : 24 ≤ nb) (h1 : nb ≤ 65536) (e1 : (nb : Int) / 2 = cnt) (e2 : (nb : Int) - cnt = at') (e3 : (nb : Int) - 2 - cnt = (pages : Int)) : Calls Tryz.prog 197 #[.int .i64 (nb : Int)] w fun e w' => e = .returned (.tuple #[.int .i64 2, .int .i64 (pages : Int), .int .i64 at', .int .i64 cnt]) ∧ w' = w := by
  have h := place_ok w (nb : Int) (by omega) (by omega)
  rw [e1, e2, e3] at h
  exact h
end Go.Proofs.YthajipigppndgaaGreat

namespace Go.Proofs.YthajipigppndgaaGreat
open Go.RowKit Go.Maps
open Pg (SpE diffS byteAt)
structure Env (b : Bk) (n : Nat) (m : Mst) : Prop where
  n0 : 24 ≤ n
  n1 : n ≤ 65536
  pages : (b.x.pages : Int) = (n : Int) - 2 - (n : Int) / 2
  start : b.x.start = 2
  nb : b.x.y.nb = (n : Int)
  first : b.x.y.first = (n : Int) - (n : Int) / 2
  count : b.x.y.count = (n : Int) / 2
  lw : b.x.y.lw = 2
  mas : Mas b.x.y.S b.x.y.O m
theorem Env.tr {b b' : Bk} {nb : Nat} {m : Mst} (h : Env b nb m) (t : Tr b b') : Env b' nb m :=
  ⟨h.n0, h.n1, by rw [t.pages]; exact h.pages, by rw [t.start]; exact h.start, by rw [t.nb]; exact h.nb, by rw [t.first]; exact h.first, by rw [t.count]; exact h.count, by rw [t.lw]; exact h.lw, h.mas.like (fun k hk => t.low k (by rw [h.lw]; exact hk))⟩
theorem Env.begun {b b' : Bk} {nb : Nat} {m m' : Mst} (h : Env b nb m) (t : Begun b b' m m') : Env b' nb m' :=
  ⟨h.n0, h.n1, by rw [t.al.2.1]; exact h.pages, by rw [t.al.1]; exact h.start, by rw [t.nb]; exact h.nb, by rw [t.first]; exact h.first, by rw [t.count]; exact h.count, by rw [t.lw]; exact h.lw, t.mas⟩
theorem Fresh.env {b : Bk} {nb most T : Nat} {m : Mst} (h : Fresh b nb most T m) (h0 : 24 ≤ nb) (h1 : nb ≤ 65536) : Env b nb m := ⟨h0, h1, h.pages, h.start, h.nb, h.first, h.count, h.lw, h.mas⟩
theorem Fresh.idle {b : Bk} {nb most T : Nat} {m : Mst} (h : Fresh b nb most T m) (h0 : 1 ≤ T) (h1 : T ≤ 2147483647) : Idle b (fun _ => zs 512) := ⟨h.t, h.sh, by rw [h.T]; exact h0, by rw [h.T]; exact h1⟩
theorem Env.pgn {b : Bk} {nb : Nat} {m : Mst} (h : Env b nb m) : b.x.pages ≤ 65536 := by
  have h1 := h.pages
  have h2 := h.n1
  omega
theorem Val.eq {w : World} {b : Bk} (h : BkAt w b) {V : Pages} (hs : Shows b.x V) {q : Nat} (hq : q < b.x.pages) {l : List UInt8} (hv : Val b.x q l) : l = V q := hv.uniq h.po.nod (hs q hq)
theorem BStep.same {w w' : World} {b b' : Bk} (h : BkAt w b) (st : BStep w w' b b') : b'.x.y.d = b.x.y.d ∧ b'.x.y.p = b.x.y.p := by
  have n1 : b.bp ∉ b.dp :: b.x.own := fun hm => by
    rcases List.mem_cons.1 hm with e | e
    · exact h.bd e
    · exact h.bn (List.mem_cons_of_mem _ e)
  have h1 := st.fr.same n1 h.box
  have h2 := st.at'.box
  unfold BBox at h2
  rw [st.bp, h1] at h2
  simp at h2
  exact ⟨h2.1.symm, h2.2.1.symm⟩
structure BegTo (w w' : World) (b : Bk) (nb : Nat) (m : Mst) (V : Pages) (b' : Bk) (m' : Mst) : Prop where
  st : BStep w w' b b'
  env : Env b' nb m'
  tx : InTx b' [] V
  T : b'.x.y.T = b.x.y.T
  E : b'.x.y.E = b.x.y.E
  A : b'.x.y.A = b.x.y.A ∨ b'.x.y.A = b.x.y.E
  s1 : m'.seq ≤ m.seq + 1
  turn : m'.turn = m.turn
  room : 204 * b'.x.y.count ≤ b'.room
  more : b.room ≤ b'.room
  most : b'.x.most = b.x.most
  chg : b'.t.chg = 0
theorem beg_to {w : World} {b : Bk} (h : BkAt w b) {nb : Nat} {m : Mst} (en : Env b nb m) {V : Pages} (hi : Idle b V) (hs : m.seq ≤ 1000000) :
    Calls Tryz.prog 21 #[.pointer (some ⟨b.bp, 0, none⟩)] w fun e w' => e = .returned (.int .i64 0) ∧ ∃ b' m', BegTo w w' b nb m V b' m' := by
  have h1 := en.nb
  have h2 := en.count
  have h3 := en.n0
  have h4 := en.start
  have h5 := en.lw
  refine (begin_any h hi.t en.mas (by omega) hs (by omega) (by omega) (by omega)).mono ?_
  rintro e w' ⟨he, b', m', st, bg⟩
  exact ⟨he, b', m', st, en.begun bg, bg.tx hi h.po.lo.hE (by omega), bg.T, bg.E, bg.A, bg.s1, bg.turn, bg.room, bg.more, bg.al.2.2.1, by rw [bg.t]; rfl⟩
structure PgTo (w w' : World) (b : Bk) (l : List UInt8) (g : Nat) (b' : Bk) : Prop where
  st : BStep w w' b b'
  tr : Tr b b'
  t : b'.t = b.t
  E : b'.x.y.E = b.x.y.E
  blk : Blk w' g l
  new : w.heap.size ≤ g
  out : g ∉ b'.dp :: b'.x.own
  idle : ∀ V, Idle b V → Idle b' V
  tx : ∀ H V, InTx b H V → InTx b' H V
  sh : ∀ V, Shows b.x V → Shows b'.x V
theorem page_to {w : World} {b : Bk} (h : BkAt w b) {V : Pages} (hv : Shows b.x V) {page : Nat} (hp : page < b.x.pages) :
    Calls Tryz.prog 106 #[.pointer (some ⟨b.bp, 0, none⟩), .int .i64 (page : Int)] w fun e w' => ∃ g b', e = .returned (.tuple #[.slice (some ⟨g, 0, none⟩) 512 512, .int .i64 0]) ∧ PgTo w w' b (V page) g b' := by
  refine (bpage_any h hp).mono ?_
  rintro e w' ⟨g, he, x', l, r⟩
  have hl := Val.eq h hv hp r.val
  subst hl
  have ho : g ∉ b.dp :: x'.own := fun hm => by
    rcases List.mem_cons.1 hm with e | e
    · have := h.dl.lt
      have := r.new
      omega
    · exact r.out e
  exact ⟨g, _, he, r.st, Tr.pool r.kin r.al.2.1 r.al.1 r.al.2.2.1, rfl, r.kin.E, r.blk, r.new, ho, fun V hi => ⟨hi.t, hi.sh.alike r.al, by show 1 ≤ x'.y.T; rw [r.kin.T]; exact hi.t0, by show x'.y.T ≤ _; rw [r.kin.T]; exact hi.t1⟩, fun H V tx => tx.kin r.kin r.al, fun V hs => hs.alike r.al⟩
structure ComTo (w w' : World) (b : Bk) (nb : Nat) (m : Mst) (V : Pages) (b' : Bk) : Prop where
  st : BStep w w' b b'
  tr : Tr b b'
  env : Env b' nb m
  idle : Idle b' V
  E : b'.x.y.E = b.x.y.E + 35
  P : b'.x.y.P = b'.x.y.E
theorem com_to {w : World} {b : Bk} (h : BkAt w b) {nb : Nat} {m : Mst} (en : Env b nb m) {H : List Ch} {V : Pages} (tx : InTx b H V) (hE : b.x.y.E ≤ 399000) :
    Calls Tryz.prog 17 #[.pointer (some ⟨b.bp, 0, none⟩)] w fun e w' => e = .returned (.int .i64 0) ∧ ∃ b', ComTo w w' b nb m V b' := by
  refine (commit_any h tx (by omega)).mono ?_
  rintro e w' ⟨he, b', st, ct, hP, ht⟩
  exact ⟨he, b', st, ct.tr, en.tr ct.tr, ⟨ht, ct.sh, by rw [ct.tr.T]; exact tx.t0, by rw [ct.tr.T]; exact tx.t1⟩, ct.E, hP⟩
theorem put_to {w : World} {b : Bk} (h : BkAt w b) {nb : Nat} {m : Mst} (en : Env b nb m) {H : List Ch} {V : Pages} (tx : InTx b H V) {page : Nat} (hp : page < b.x.pages) {g c : Nat} {data : List UInt8} (hd : data.length = 512) (hc : 512 ≤ c) (hb : BytesAt w (some ⟨g, 0, none⟩) data) (hgo : g ∉ b.dp :: b.x.own) (hE : b.x.y.E ≤ 390000) :
    Calls Tryz.prog 37 #[.pointer (some ⟨b.bp, 0, none⟩), .int .i64 (page : Int), .slice (some ⟨g, 0, none⟩) 512 c] w fun e w' => ∃ r : Int, e = .returned (.int .i64 r) ∧ ∃ S : List SpE, S.map (fun e => (e.off, e.off + e.n)) = diffS (V page) data ∧ PutTo w w' b H V page data S r := put_in h tx hp en.pgn hd hc hb hgo hE
end Go.Proofs.YthajipigppndgaaGreat

