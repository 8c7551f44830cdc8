/-
  ChangeDoes: what Begin, Commit and Abort make of the model.
-/
import Derived.Test.YtopaeomjndblkaaGreatZB4
namespace Go.Proofs.YtopaeomjndblkaaGreat
open Go.RowKit Go.Maps
open Pg (SpE diffS)

section
variable {w0 w w' : World} {rg mb bp dd ll pp nb pgn : Nat} {p s : Int} {aN aW : Option Addr} {cN nW cW : Nat} {eN : List (Nat × Nat)} {ow ch : Int} {b : Bk} {m : Mst} {V : Pages}
theorem Cg.oldest {M : Array Value} (h : Cg w0 w rg mb bp dd ll pp nb pgn M b m) : Calls Tryz.prog 195 #[.pointer (some ⟨ll, 0, none⟩)] w fun e w' => e = .returned (.int .i64 ((b.x.y.A : Int) + 1)) ∧ w' = w := by
  have h1 := lo_oldest h.ab.bk.po.lo
  rw [h.l] at h1
  exact h1
set_option maxHeartbeats 4000000 in
set_option maxRecDepth 100000 in
theorem pointed_any (O : CdO w0 w rg mb bp dd ll pp nb pgn p s aN cN eN aW nW cW ow ch b m V) (hA : b.x.y.A = b.x.y.E) (hm : m.old = (b.x.y.E : Int) + 1) (on : ∀ q, q < pgn → pgD 2 b.x.y q = V q) (hpg2 : pgn ≤ 200) (hnb : (pgn : Int) + 2 ≤ (nb : Int)) :
    Calls Tryz.prog 93 #[.pointer (some ⟨rg, 0, none⟩), .pointer (some ⟨mb, 0, none⟩)] w fun e w' => e = .returned (.bool true) ∧ Fr [] w w' := by
  have g0 := O.g.c0
  have hd := O.g.ab.bk.po.lo.dev
  rw [O.g.d, O.g.env.nb] at hd
  have RX := mas_read hd (by omega) O.g.env.mas
  have ON := hidI on
  have HO := hidI O
  have HM := hidI (And.intro hA hm)
  have HTN := hidI O.g.tn
  clear O hA hm on hd
  obtain ⟨m1, m2, m3⟩ := m
  unfold mV at RX
  dsimp only at RX
  go_enter Tryz.func93, Tryz.ntmps93
  go_upto_region 2 with (go_at_call 35; refine RX.mono ?_; rintro e w1 ⟨rfl, f1⟩)
  have fa := f1.alloc (.cells #[.int .i64 m1, .int .i64 m2, .int .i64 m3] 72)
  have ha := heap_alloc_new w1 (.cells #[.int .i64 m1, .int .i64 m2, .int .i64 m3] 72)
  obtain ⟨z, hz⟩ : ∃ z, w1.heap.size = z := ⟨_, rfl⟩
  rw [hz] at ha ⊢
  generalize w1.alloc (.cells #[.int .i64 m1, .int .i64 m2, .int .i64 m3] 72) = w2 at fa ha ⊢
  have x1 : w2.cell? ⟨z, 1, none⟩ = some (.int .i64 m2) := cell_of_row w2 z 1 _ _ _ ha
  have x2 : w2.cell? ⟨z, 2, none⟩ = some (.int .i64 m3) := cell_of_row w2 z 2 _ _ _ ha
  have r1 := (HO.out.g.quiet fa).c1
  have EX : Hid (∀ w', Fr [] w w' → Calls Tryz.prog 77 #[.pointer (some ⟨ll, 0, none⟩)] w' fun e w'' => e = .returned (.int .i64 m3) ∧ w'' = w') := hidI (fun w' f => by
    have h1 := (HO.out.g.quiet f).end_
    rw [← HM.out.2] at h1
    exact h1)
  have OX : Hid (∀ w', Fr [] w w' → Calls Tryz.prog 195 #[.pointer (some ⟨ll, 0, none⟩)] w' fun e w'' => e = .returned (.int .i64 m3) ∧ w'' = w') := hidI (fun w' f => by
    have h1 := (HO.out.g.quiet f).oldest
    rw [HM.out.1, ← HM.out.2] at h1
    exact h1)
  obtain rfl := HTN.out
  clear ha hz RX g0 HTN
  have b1 : (m3 != m3) = false := by simp
  go_quiet (first
    | (go_at_call 77; exact Calls.quiet_of_same (EX.out _ (by first | exact fa.drewN _ | exact fa.drew | exact fa)))
    | (go_at_call 195; exact Calls.quiet_of_same (OX.out _ (by first | exact fa.drewN _ | exact fa.drew | exact fa))))
  have FA := hidI (fa.drewN nq)
  clear x1 x2 r1 EX OX HM b1 fa f1
  generalize w2.drewN nq = w3 at FA ⊢
  go_wp2_with fail
  go_loopw [7] (fun s7 wr => ∃ i : Nat, s7 = .int .i64 (i : Int) ∧ i ≤ pgn ∧ Hid (Fr [] w wr)) (fun i _ => pgn - (intOf i).toNat)
  case atStart => exact ⟨0, rfl, by omega, FA⟩
  case round =>
    obtain ⟨i, rfl, hi, FR⟩ := hrel
    have OR := hidI (HO.out.quiet FR.out)
    have m0 : wr.cell? ⟨mb, 0, none⟩ = some (.slice aN pgn cN) := OR.out.g.mc rfl
    by_cases hlt : i < pgn
    · have q1 : (i : Int) < (pgn : Int) := by omega
      have q0 : (0 : Int) ≤ (i : Int) := by omega
      have e2 : IntKind.i64.wrap (2 + (i : Int)) = 2 + (i : Int) := wrapI _ (by omega) (by omega)
      have c0 := OR.out.g.c0
      have hd := OR.out.g.ab.bk.po.lo.dev
      rw [OR.out.g.d, OR.out.g.env.nb] at hd
      have DX := dread hd (2 + (i : Int)) (by omega) (by omega)
      have hv : Dv.latest b.x.y.S b.x.y.O (2 + (i : Int)) = V i := ON.out i hlt
      rw [hv] at DX
      obtain ⟨tb, e, rfl, he, _⟩ := OR.out.tn.t.at i hlt
      have KC : Hid (∀ w', Fr [] wr w' → w'.cell? ⟨mb, 0, none⟩ = some (.slice (some ⟨tb, 0, none⟩) pgn cN) ∧ w'.cell? ⟨tb, i, none⟩ = some (.slice (some ⟨e.1, 0, none⟩) 512 e.2) ∧ RowB w' e.1 e.2 (V i) ∧ (V i).length = 512) := hidI (fun w' f => by
        have T := OR.out.tn.t.quiet f
        obtain ⟨tb', e', ha, he', hc'⟩ := T.at i hlt
        cases ha
        rw [he] at he'
        cases he'
        exact ⟨(OR.out.g.quiet f).mc rfl, hc', (T.blk i e he).1, (T.blk i e he).2.1⟩)
      clear hd hv he hlt
      go_wp2_with (first
        | (go_at_call 83; refine DX.mono ?_; rintro e5 w5 ⟨g5, rfl, B5, hg5, f5⟩; obtain ⟨y0, y1, y2, y3⟩ := KC.out _ f5; have SX := same_any w5 (some ⟨g5, 0, none⟩) (some ⟨e.1, 0, none⟩) (V i) (V i) 512 512 e.2 B5.bytes y2.bytes y3 y3 (by omega); rw [show (V i == V i) = true by simp] at SX; have F5 := hidI (FR.out.trans f5); clear y2 y3 B5 f5 DX)
        | (go_at_call 29; refine SX.mono ?_; rintro e6 w6 ⟨rfl, f6⟩))
      exact ⟨⟨i + 1, by go_num, by omega, hidI (F5.out.trans f6)⟩, by simp [intOf]; omega⟩
    · have q1 : ¬ (i : Int) < (pgn : Int) := by omega
      go_wp2_with fail
      go_ret
      exact ⟨rfl, FR.out⟩
end
end Go.Proofs.YtopaeomjndblkaaGreat

namespace Go.Proofs.YtopaeomjndblkaaGreat
open Go.RowKit Go.Maps
open Pg (SpE diffS)

section
variable {w0 w w' : World} {rg mb bp dd ll pp nb pgn : Nat} {p s : Int} {aN aW : Option Addr} {cN nW cW : Nat} {eN eW : List (Nat × Nat)} {ow ch : Int} {b b' : Bk} {m m' : Mst} {U V : Pages} {H : List Ch}
theorem own_baseS {B : Nat} {w : World} {e : TypeId} {ad : Option Addr} {n c : Nat} {xs : List Value} (h : w.ownsRow B e 1 (.slice ad n c) n xs) (t : Nat) (hn : 0 < n) (ha : ad = some ⟨t, 0, none⟩) : B ≤ t := by
  rcases h.2 with ⟨_, h0⟩ | ⟨g, cap, cur, hv, hb, _⟩
  · omega
  · rw [ha] at hv
    cases hv
    exact hb
theorem CdO.began (O : CdO w0 w rg mb bp dd ll pp nb pgn p s aN cN eN aW nW cW ow ch b m V) (hpos : 0 < pgn) {w1 w2 w3 : World} (B : BegTo w w1 b nb m V b' m') (f2 : Fr [] w1 w2) {a' : Option Addr} {c' : Nat} {es' : List (Nat × Nat)} (T : Tp w2.heap.size w3 a' pgn c' es' V) (f3 : Fr [] w2 w3) :
    ∃ w4 w5 w6 w7, w3.setCell ⟨mb, 2, none⟩ (.bool true) = w4 ∧ w3.frozen? ⟨mb, 2, none⟩ = false ∧ w3.cell? ⟨mb, 2, none⟩ = some (.bool false) ∧ w4.setCell ⟨mb, 3, none⟩ (.int .i64 35) = w5 ∧ w4.frozen? ⟨mb, 3, none⟩ = false ∧ w4.cell? ⟨mb, 3, none⟩ = some (.int .i64 ow) ∧ w5.setCell ⟨mb, 4, none⟩ (.int .i64 0) = w6 ∧ w5.frozen? ⟨mb, 4, none⟩ = false ∧ w5.cell? ⟨mb, 4, none⟩ = some (.int .i64 ch) ∧ w6.setCell ⟨mb, 1, none⟩ (.slice a' pgn c') = w7 ∧ w6.frozen? ⟨mb, 1, none⟩ = false ∧ w6.cell? ⟨mb, 1, none⟩ = some (.slice aW nW cW) ∧
    Hid (CdI w0 w7 rg mb bp dd ll pp nb pgn p (s + 1) aN cN eN a' c' es' b' m' V [] V) := by
  have G3 := ((O.g.go B.st B.env (by rw [B.turn]; exact O.g.tn)).quiet f2).quiet f3
  have T3 := ((O.tn.go O.g.ab.bk B.st).quiet f2).quiet f3
  obtain ⟨w4, e4, z4, c4, P4⟩ := G3.step 2 (.bool true) (v0 := .bool false) rfl
  obtain ⟨G4, f4, k4⟩ := P4.out
  obtain ⟨w5, e5, z5, c5, P5⟩ := G4.step 3 (.int .i64 35) (v0 := .int .i64 ow) rfl
  obtain ⟨G5, f5, k5⟩ := P5.out
  obtain ⟨w6, e6, z6, c6, P6⟩ := G5.step 4 (.int .i64 0) (v0 := .int .i64 ch) rfl
  obtain ⟨G6, f6, k6⟩ := P6.out
  obtain ⟨w7, e7, z7, c7, P7⟩ := G6.step 1 (.slice a' pgn c') (v0 := .slice aW nW cW) rfl
  obtain ⟨G7, f7, k7⟩ := P7.out
  have lt1 : ∀ k ∈ b'.dp :: b'.x.own, k < w2.heap.size := fun k hk => Nat.lt_of_lt_of_le (B.st.at'.lt k (by rcases List.mem_cons.1 hk with e | e <;> simp [e])) f2.size
  have T0 : Tb w0 w3 b' a' pgn c' es' V := ⟨T.low (Nat.le_trans (Nat.le_trans O.g.ab.fr.size B.st.fr.size) f2.size), fun x hx hm => by
    obtain ⟨i, hi⟩ := List.mem_iff_getElem?.1 hx
    have h1 := (T.blk i x hi).2.2
    have h2 := lt1 _ hm
    omega⟩
  have hk0 : keptOf [] = 0 := rfl
  refine ⟨w4, w5, w6, w7, e4, z4, c4, e5, z5, c5, e6, z6, c6, e7, z7, c7, hidI ⟨?_, B.tx, rfl, (((T3.off f4 k4 (by decide) (by decide)).off f5 k5 (by decide) (by decide)).off f6 k6 (by decide) (by decide)).off f7 k7 (by decide) (by decide), (((T0.off f4 k4 (by decide) (by decide)).off f5 k5 (by decide) (by decide)).off f6 k6 (by decide) (by decide)).off f7 k7 (by decide) (by decide), fun t1 t2 h1 h2 e => ?_, ?_, ?_⟩⟩
  · rw [hk0, B.chg]
    exact G7
  · obtain ⟨t3, cur, ha, hc⟩ := ((O.tn.go O.g.ab.bk B.st).quiet f2).row hpos
    rw [h1] at ha
    cases ha
    have h3 := (Array.getElem?_eq_some_iff.1 hc).1
    have h4 := own_baseS T.own t2 hpos h2
    omega
  · unfold phN
    rw [hk0, B.E]
    have := O.E
    omega
  · have h1 := B.s1
    have h2 := O.sq
    omega
/-- Behind Commit. -/
theorem CdI.ended (I : CdI w0 w rg mb bp dd ll pp nb pgn p s aN cN eN aW cW eW b m U H V) (hp : p ≤ 400000) {w1 : World} (C : ComTo w w1 b nb m V b') {w2 : World} (f2 : Fr [] w1 w2) :
    ∃ w3, w2.setCell ⟨mb, 2, none⟩ (.bool false) = w3 ∧ w2.frozen? ⟨mb, 2, none⟩ = false ∧ w2.cell? ⟨mb, 2, none⟩ = some (.bool true) ∧ Hid (CdO w0 w3 rg mb bp dd ll pp nb pgn (p + 35) s aN cN eN aW pgn cW (35 + keptOf H) b.t.chg b' m V) := by
  have G2 := (I.g.go C.st C.env I.g.tn).quiet f2
  have T2 := (I.tn.go I.g.ab.bk C.st).quiet f2
  obtain ⟨w3, e3, z3, c3, P3⟩ := G2.step 2 (.bool false) (v0 := .bool true) rfl
  obtain ⟨G3, f3, k3⟩ := P3.out
  have h1 := I.ph
  have h2 := C.E
  have h3 := keptOf_nonneg H
  unfold phN at h1
  exact ⟨w3, e3, z3, c3, hidI ⟨G3, C.idle, T2.off f3 k3 (by decide) (by decide), by omega, I.sq, by omega⟩⟩
/-- Behind Abort. -/
theorem CdI.undone (I : CdI w0 w rg mb bp dd ll pp nb pgn p s aN cN eN aW cW eW b m U H V) (hp : p ≤ 400000) {w1 : World} (A : AboTo w w1 b nb m H V b') {w2 w3 : World} (f2 : Fr [] w1 w2) {a' : Option Addr} {c' : Nat} {es' : List (Nat × Nat)} (T : Tp w2.heap.size w3 a' pgn c' es' U) (f3 : Fr [] w2 w3) :
    ∃ w4 w5, w3.setCell ⟨mb, 0, none⟩ (.slice a' pgn c') = w4 ∧ w3.frozen? ⟨mb, 0, none⟩ = false ∧ w3.cell? ⟨mb, 0, none⟩ = some (.slice aN pgn cN) ∧ w4.setCell ⟨mb, 2, none⟩ (.bool false) = w5 ∧ w4.frozen? ⟨mb, 2, none⟩ = false ∧ w4.cell? ⟨mb, 2, none⟩ = some (.bool true) ∧ Hid (CdO w0 w5 rg mb bp dd ll pp nb pgn (p + 35) s a' c' es' aW pgn cW (35 + keptOf H) b.t.chg b' m U) := by
  have G3 := ((I.g.go A.st A.env I.g.tn).quiet f2).quiet f3
  obtain ⟨w4, e4, z4, c4, P4⟩ := G3.step 0 (.slice a' pgn c') (v0 := .slice aN pgn cN) rfl
  obtain ⟨G4, f4, k4⟩ := P4.out
  obtain ⟨w5, e5, z5, c5, P5⟩ := G4.step 2 (.bool false) (v0 := .bool true) rfl
  obtain ⟨G5, f5, k5⟩ := P5.out
  have lt1 : ∀ k ∈ b'.dp :: b'.x.own, k < w2.heap.size := fun k hk => Nat.lt_of_lt_of_le (A.st.at'.lt k (by rcases List.mem_cons.1 hk with e | e <;> simp [e])) f2.size
  have T0 : Tb w0 w3 b' a' pgn c' es' U := ⟨T.low (Nat.le_trans (Nat.le_trans I.g.ab.fr.size A.st.fr.size) f2.size), fun x hx hm => by
    obtain ⟨i, hi⟩ := List.mem_iff_getElem?.1 hx
    have h1 := (T.blk i x hi).2.2
    have h2 := lt1 _ hm
    omega⟩
  have h1 := I.ph
  have h2 := A.E
  have h3 := keptOf_nonneg H
  have hi := A.idle
  rw [I.un] at hi
  unfold phN at h1
  exact ⟨w4, w5, e4, z4, c4, e5, z5, c5, hidI ⟨G5, hi, (T0.off f4 k4 (by decide) (by decide)).off f5 k5 (by decide) (by decide), by omega, I.sq, by omega⟩⟩
theorem CdI.abort (I : CdI w0 w rg mb bp dd ll pp nb pgn p s aN cN eN aW cW eW b m U H V) (hp : p ≤ 370000) :
    Calls Tryz.prog 33 #[.pointer (some ⟨bp, 0, none⟩)] w fun e w' => e = .returned (.int .i64 0) ∧ ∃ b', Hid (AboTo w w' b nb m H V b') := by
  have h1 := I.ph
  have h2 := I.tx.Ele
  have h3 := I.g.env.count
  have h4 := I.g.nb1
  unfold phN at h1
  have h5 := abort_any I.g.ab.bk I.tx.st (I.tx.un (by omega) (by omega) I.g.env.pgn)
  rw [I.g.ab.ebp] at h5
  refine h5.mono ?_
  rintro e w' ⟨he, b', st, tr, sh, hE', ht⟩
  exact ⟨he, b', hidI ⟨st, tr, I.g.env.tr tr, ⟨ht, sh, by rw [tr.T]; exact I.tx.t0, by rw [tr.T]; exact I.tx.t1⟩, hE'⟩⟩
theorem CdI.commit (I : CdI w0 w rg mb bp dd ll pp nb pgn p s aN cN eN aW cW eW b m U H V) (hp : p ≤ 390000) :
    Calls Tryz.prog 32 #[.pointer (some ⟨bp, 0, none⟩)] w fun e w' => e = .returned (.int .i64 0) ∧ ∃ b', Hid (ComTo w w' b nb m V b') := by
  have h1 := I.ph
  have h3 := keptOf_nonneg H
  unfold phN at h1
  refine (ab_com I.g.ab I.g.env I.tx (by omega)).mono ?_
  rintro e w' ⟨he, b', P⟩
  exact ⟨he, b', hidI P.out.2⟩
theorem CdO.begin (O : CdO w0 w rg mb bp dd ll pp nb pgn p s aN cN eN aW nW cW ow ch b m V) (hs : s ≤ 1000) :
    Calls Tryz.prog 30 #[.pointer (some ⟨bp, 0, none⟩)] w fun e w' => e = .returned (.int .i64 0) ∧ ∃ b' m', Hid (BegTo w w' b nb m V b' m') := by
  have h1 := O.sq
  refine (ab_beg O.g.ab O.g.env O.idle (by omega)).mono ?_
  rintro e w' ⟨he, b', m', P⟩
  exact ⟨he, b', m', hidI P.out.2⟩
/-- A checkpoint. -/
theorem CdO.point (O : CdO w0 w rg mb bp dd ll pp nb pgn p s aN cN eN aW nW cW ow ch b m V) (hs : s ≤ 1000) :
    Calls Tryz.prog 34 #[.pointer (some ⟨bp, 0, none⟩)] w fun e w' => e = .returned (.int .i64 0) ∧ ∃ b' m', Hid (CdO w0 w' rg mb bp dd ll pp nb pgn p (s + 1) aN cN eN aW nW cW ow ch b' m' V ∧ b'.x.y.A = b'.x.y.E ∧ m'.old = (b'.x.y.E : Int) + 1 ∧ ∀ q, q < pgn → pgD 2 b'.x.y q = V q) := by
  have h1 := O.sq
  have h2 := point_any O.g.ab.bk O.idle.t O.g.env.mas (by rw [O.g.env.nb]; have := O.g.env.n0; omega) (by omega) (by rw [O.g.env.start]; decide) (by rw [O.g.env.lw]; decide)
  rw [O.g.ab.ebp] at h2
  refine h2.mono ?_
  rintro e w' ⟨he, b', st, P⟩
  have hE := P.E
  refine ⟨he, b', ⟨m.seq + 1, m.turn, (b.x.y.E : Int) + 1⟩, hidI ⟨⟨O.g.go st (O.g.env.pntd P) O.g.tn, ⟨by rw [P.t]; exact O.idle.t, O.idle.sh.alike P.al, by rw [P.T]; exact O.idle.t0, by rw [P.T]; exact O.idle.t1⟩, O.tn.go O.g.ab.bk st, by rw [P.E]; exact O.E, by show m.seq + 1 ≤ s + 1; omega, O.ob⟩, by rw [P.A, P.E], by show (b.x.y.E : Int) + 1 = _; rw [P.E], fun q hq => ?_⟩⟩
  have h3 := P.on q (by rw [O.g.pg]; exact hq) (V q) (O.idle.sh q (by rw [O.g.pg]; exact hq))
  rw [O.g.env.start] at h3
  exact h3
end
end Go.Proofs.YtopaeomjndblkaaGreat

