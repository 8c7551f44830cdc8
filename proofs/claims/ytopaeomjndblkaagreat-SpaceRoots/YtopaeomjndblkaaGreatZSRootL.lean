/-
  SpaceRoots' law.
-/
import Derived.Test.YtopaeomjndblkaaGreatY50Z
import Derived.Deep.LoopGhost
import Derived.Deep.CutRange
import Derived.BigQuiet
namespace Go.Proofs.YtopaeomjndblkaaGreat
open Go.RowKit Go.Maps
open Pg (SpE diffS byteAt)

/-- The law's eight roots. -/
def r8 (r : Nat → Nat) : Array Value := ((List.range 8).map fun k => Value.int .i64 (r k : Int)).toArray
theorem r8_cell {w : World} {rb : Nat} {r : Nat → Nat} (h : w.heap[rb]? = some (.cells (r8 r) 121)) {j : Nat} (hj : j < 8) : w.cell? ⟨rb, j, none⟩ = some (.int .i64 (r j : Int)) := by
  rw [cell_of_row w rb j _ _ _ h]
  simp [r8, hj]
def upd (r : Nat → Nat) (k v : Nat) : Nat → Nat := fun j => if j = k then v else r j
theorem r8_set {w : World} {rb : Nat} {r : Nat → Nat} (h : w.heap[rb]? = some (.cells (r8 r) 121)) {k : Nat} (v : Nat) (hk : k < 8) : (w.setCell ⟨rb, k, none⟩ (.int .i64 (v : Int))).heap[rb]? = some (.cells (r8 (upd r k v)) 121) := by
  have h1 := heap_setCell_same w rb k _ _ (.int .i64 (v : Int)) h
  rw [h1]
  congr 2
  have : k = 0 ∨ k = 1 ∨ k = 2 ∨ k = 3 ∨ k = 4 ∨ k = 5 ∨ k = 6 ∨ k = 7 := by omega
  rcases this with e | e | e | e | e | e | e | e <;> subst e <;> rfl
theorem r8_zero : (#[.int .i64 0, .int .i64 0, .int .i64 0, .int .i64 0, .int .i64 0, .int .i64 0, .int .i64 0, .int .i64 0] : Array Value) = r8 (fun _ => 0) := rfl
/-- The law between two of its steps. -/
structure RtS (w0 w : World) (bp rb : Nat) (m : Mst) (U : Pages) (b : Bk) (H : List Ch) (V : Pages) (r : Nat → Nat) (p s : Int) : Prop where
  i : In w0 w bp [(rb, .cells (r8 r) 121)] 72 m U b H V
  pg : b.x.pages = 34
  sp : ∃ tk, Spz 34 V tk
  rt : ∀ k, k < 8 → numAt (V 0) (8 + 4 * k) = r k
  hr : w0.heap.size ≤ rb
  ph : phN b H ≤ p
  sq : m.seq ≤ s
theorem RtS.box {w0 w : World} {bp rb : Nat} {m : Mst} {U : Pages} {b : Bk} {H : List Ch} {V : Pages} {r : Nat → Nat} {p s : Int} (h : RtS w0 w bp rb m U b H V r p s) : w.heap[rb]? = some (.cells (r8 r) 121) := (h.i.ab.kp _ List.mem_cons_self).1
theorem RtS.quiet {w0 w w' : World} {bp rb : Nat} {m : Mst} {U : Pages} {b : Bk} {H : List Ch} {V : Pages} {r : Nat → Nat} {p s : Int} (h : RtS w0 w bp rb m U b H V r p s) (f : Fr [] w w') : RtS w0 w' bp rb m U b H V r p s := ⟨h.i.quiet f, h.pg, h.sp, h.rt, h.hr, h.ph, h.sq⟩
theorem RtS.le {w0 w : World} {bp rb : Nat} {m : Mst} {U : Pages} {b : Bk} {H : List Ch} {V : Pages} {r : Nat → Nat} {p s p' s' : Int} (h : RtS w0 w bp rb m U b H V r p s) (hp : p ≤ p') (hs : s ≤ s') : RtS w0 w bp rb m U b H V r p' s' := ⟨h.i, h.pg, h.sp, h.rt, h.hr, by have := h.ph; omega, by have := h.sq; omega⟩
/-- The root is set, in the book and in the law's row. -/
theorem RtS.root {w0 w w1 : World} {bp rb : Nat} {m : Mst} {U : Pages} {b b1 : Bk} {H H1 : List Ch} {V : Pages} {r : Nat → Nat} {p s : Int} (h : RtS w0 w bp rb m U b H V r p s) {k v : Nat} (hk : k < 8) (hv : v < 34) (d : Did w0 w1 bp [(rb, .cells (r8 r) 121)] 72 m U b H (setPg V 0 (putAt (V 0) (8 + 4 * k) v)) 132 b1 H1) : RtS w0 (w1.setCell ⟨rb, k, none⟩ (.int .i64 (v : Int))) bp rb m U b1 H1 (rootV V k v) (upd r k v) (p + 132) s := by
  have hb1 : w1.heap[rb]? = some (.cells (r8 r) 121) := (d.i.ab.kp _ List.mem_cons_self).1
  have f := fr_set w1 rb k (.int .i64 (v : Int))
  have aw := d.i.ab.bk.away hb1 (by decide) (by decide) (by decide) (by decide)
  have A1 : Ab w0 w1 bp b1 [] := d.i.ab.less (fun p hp => nomatch hp)
  have A2 := A1.put f aw.1 aw.2.1 aw.2.2 h.hr (fun p hp => nomatch hp)
  have A3 := A2.add (r8_set hb1 v hk) aw.2.1
  have hl : (V 0).length = 512 := h.i.len (by rw [h.pg]; omega)
  obtain ⟨tk, hsp⟩ := h.sp
  refine ⟨d.i.on A3, by rw [d.tr.pages]; exact h.pg, ⟨tk, hsp.root hl hk hv (by omega)⟩, fun j hj => ?_, h.hr, ?_, h.sq⟩
  · rw [rootV_root hl hk hj (by omega), h.rt j hj]
    rfl
  · have h1 := d.ph
    have h2 := h.ph
    omega
/-- A Take, however it ends. -/
theorem RtS.take {w0 w : World} {bp rb : Nat} {m : Mst} {U : Pages} {b : Bk} {H : List Ch} {V : Pages} {r : Nat → Nat} {p s : Int} (h : RtS w0 w bp rb m U b H V r p s) (hp : p ≤ 300000) :
    Calls Tryz.prog 62 #[.pointer (some ⟨bp, 0, none⟩)] w fun e w' => ∃ q f : Int, e = .returned (.tuple #[.int .i64 q, .int .i64 f]) ∧ (f = 0 ∨ f = 5) ∧ ∃ b' H' V', Hid (RtS w0 w' bp rb m U b' H' V' r (p + 97) s) := by
  obtain ⟨tk, hsp⟩ := h.sp
  have hph := h.ph
  rcases low_or V 34 with hn | ⟨q, hl⟩
  · refine (stake_none h.i (by rw [h.pg]; exact hsp.sp) (by rw [h.pg]; exact hn)).mono ?_
    rintro e w' ⟨he, b', D⟩
    have d := D.out
    exact ⟨0, 5, he, Or.inr rfl, b', H, V, hidI ⟨d.i, by rw [d.tr.pages]; exact h.pg, h.sp, h.rt, h.hr, by have := d.ph; omega, h.sq⟩⟩
  · have ho := hsp.sp.free hl.2.1
    have hz := hsp.z q ho hl.1
    refine (stake_low h.i (by rw [h.pg]; exact hsp.sp) (p := q) (by rw [h.pg]; exact hl) 0 (fun S hS => cost_zs hz hS) (by omega)).mono ?_
    rintro e w' ⟨x, f, he, P⟩
    rcases P.out with ⟨rfl, rfl, _, b', H', V', hV, d⟩ | ⟨rfl, rfl, b', H', d⟩
    · have hV' : V' = V := by
        rcases hV with e | e
        · exact e
        · rw [e]; exact setPg_self hz
      subst hV'
      exact ⟨_, 5, he, Or.inr rfl, b', H', V', hidI ⟨d.i, by rw [d.tr.pages]; exact h.pg, h.sp, h.rt, h.hr, by have := d.ph; omega, h.sq⟩⟩
    · have hg := own_gt hl.1
      have h34 := h.pg
      have hq := hl.1
      refine ⟨_, 0, he, Or.inl rfl, b', H', _, hidI ⟨d.i, by rw [d.tr.pages]; exact h.pg, ⟨_, hsp.take hl.1 ho (h.i.len (by omega))⟩, fun k hk => ?_, h.hr, by have := d.ph; omega, h.sq⟩⟩
      rw [takeV_own hl.1 ho (by omega) (by omega)]
      exact h.rt k hk
theorem RtS.turn {w0 w : World} {bp rb : Nat} {m : Mst} {U : Pages} {b : Bk} {H : List Ch} {V : Pages} {r : Nat → Nat} {p s : Int} (h : RtS w0 w bp rb m U b H V r p s) (hp : p ≤ 300000) (hs : s ≤ 10000) :
    Calls Tryz.prog 32 #[.pointer (some ⟨bp, 0, none⟩)] w fun e w1 => e = .returned (.int .i64 0) ∧ Hid (Calls Tryz.prog 30 #[.pointer (some ⟨bp, 0, none⟩)] w1 fun e w' => e = .returned (.int .i64 0) ∧ ∃ m' U' b' H', Hid (RtS w0 w' bp rb m' U' b' H' V r (p + 35) (s + 1))) := by
  have hph := h.ph
  have hE := h.i.E
  have hsq := h.sq
  refine (in_com h.i (by omega)).mono ?_
  rintro e w1 ⟨he, b1, P1⟩
  refine ⟨he, hidI ?_⟩
  obtain ⟨I1, N1, E1, A1⟩ := P1.out
  refine (idl_beg I1 (by omega)).mono ?_
  rintro e w2 ⟨he2, b2, m2, P2⟩
  obtain ⟨I2, N2, p2, _, _⟩ := P2.out
  have hs2 := N2.s1
  exact ⟨he2, m2, V, b2, [], hidI ⟨I2, by rw [N2.pages, N1.pages]; exact h.pg, h.sp, h.rt, h.hr, by rw [p2, E1]; omega, by omega⟩⟩
set_option maxHeartbeats 8000000 in
set_option maxRecDepth 100000 in
theorem spaceRoots_law (w : World) (ad : Option Addr) (nL cL : Nat) (L : List SDo) (hnL : L.length = nL) (hsL : nL ≤ cL ∧ cL < 9223372036854775808) (hD : SDosAt w ad L) :
    Calls Tryz.prog 14 #[.slice ad nL cL] w fun e w' => e = .returned (.bool true) ∧ Fr [] w w' := by
  have HD := hidI hD
  have HL := hidI hnL
  clear hD hnL
  go_enter Tryz.func14, Tryz.ntmps14
  go_upto_if 18 with (go_at_call 58; refine (sawake_ok w).mono ?_; rintro e w1 ⟨rfl, f1⟩)
  go_cut [0] from 19 (fun s0 wx => ∃ n c, s0 = .slice ad n c ∧ n ≤ 80 ∧ n ≤ nL ∧ wx = w1)
  case first =>
    by_cases hlong : 80 < nL
    · have q0 : (80 : Int) < (nL : Int) := by omega
      obtain ⟨d, hd⟩ : ∃ d, L[0]? = some d := ⟨_, List.getElem?_eq_getElem (by have := HL.out; omega)⟩
      obtain ⟨_, b0, off, rfl, _⟩ := HD.out 0 d hd
      have q1 : (80 : Int) ≤ (cL : Int) := by omega
      clear hd
      go_wp2_with fail
      go_meet
      exact ⟨80, _, rfl, by omega, by omega, rfl⟩
    · have q0 : ¬ (80 : Int) < (nL : Int) := by omega
      go_wp2_with fail
      go_meet
      exact ⟨nL, _, rfl, by omega, by omega, rfl⟩
  case rest =>
    obtain ⟨n, c, rfl, hn8, hnL, rfl⟩ := hcut
    go_wp2_with fail
    refine (formatted_ok wc).mono ?_
    rintro e w2 ⟨bp, rfl, P⟩
    have fa := (Fr.refl [] w2).alloc (.cells #[.int .i64 0, .int .i64 0, .int .i64 0, .int .i64 0, .int .i64 0, .int .i64 0, .int .i64 0, .int .i64 0] 121)
    have ha := heap_alloc_new w2 (.cells #[.int .i64 0, .int .i64 0, .int .i64 0, .int .i64 0, .int .i64 0, .int .i64 0, .int .i64 0, .int .i64 0] 121)
    obtain ⟨w3, hw3⟩ : ∃ w3, w2.alloc (.cells #[.int .i64 0, .int .i64 0, .int .i64 0, .int .i64 0, .int .i64 0, .int .i64 0, .int .i64 0, .int .i64 0] 121) = w3 := ⟨_, rfl⟩
    obtain ⟨rb, hrb⟩ : ∃ rb, w2.heap.size = rb := ⟨_, rfl⟩
    rw [hw3] at fa ha
    rw [hrb] at ha
    have S0 : Hid (∃ b m U H V r, RtS w w3 bp rb m U b H V r 1000 4) := hidI (by
      obtain ⟨b, m, H, I, pg, ph, _, sq⟩ := P.out
      have I2 : In w w2 bp [] 72 m Z0 b H (fmtV 34 Z0) := ⟨⟨I.ab.bk, f1.trans I.ab.fr, fun k hk => Nat.le_trans f1.size (I.ab.new k hk), I.ab.ebp, I.ab.kp⟩, I.env, I.tx, I.un⟩
      have I3 := I2.quiet fa
      have hn : rb ∉ b.dp :: b.x.own := (I3.ab.bk.away ha (by decide) (by decide) (by decide) (by decide)).2.1
      exact ⟨b, m, Z0, H, _, fun _ => 0, I3.on (I3.ab.add (by rw [← r8_zero]; exact ha) hn), pg, ⟨_, fmt_spz (fun t _ => Z0_len _) (by omega) (fun p _ _ => rfl)⟩, fun k hk => fmtV_root hk, by have := I2.ab.fr.size; omega, by omega, by omega⟩)
    clear P fa ha
    go_wp2_with fail
    go_loopg [5] n (fun g s5 wx => ∃ i : Nat, i + g = n ∧ s5 = .int .i64 (i : Int) ∧ Hid (∃ b m U H V r, RtS w wx bp rb m U b H V r (1000 + 400 * i) (4 + i)))
    case atStart => exact ⟨0, by omega, rfl, by simpa using S0⟩
    case round =>
      obtain ⟨i, hi, rfl, HR⟩ := hrel
      obtain ⟨b, m, U, H, V, r, HS⟩ : ∃ b m U H V r, Hid (RtS w wr bp rb m U b H V r (1000 + 400 * i) (4 + i)) := by
        obtain ⟨b, m, U, H, V, r, h⟩ := HR.out
        exact ⟨b, m, U, H, V, r, hidI h⟩
      clear HR
      by_cases hlt : i < n
      · have q0 : (i : Int) < (n : Int) := by omega
        obtain ⟨g, rfl⟩ : ∃ g, gk = g + 1 := ⟨gk - 1, by omega⟩
        obtain ⟨d, hd⟩ : ∃ d, L[i]? = some d := ⟨_, List.getElem?_eq_getElem (by have := HL.out; omega)⟩
        obtain ⟨ok, b0, off, rfl, c0, c1, c2⟩ := (HD.out.kept HS.out.i.ab.fr) i d hd
        obtain ⟨kw, kw0, kw1, _⟩ := pick_in wr d.which 8 ok.which (by omega) (by omega)
        obtain ⟨kp, kp0, kp1, _⟩ := pick_in wr d.page 34 ok.page (by omega) (by omega)
        have PW : Hid (∀ w', Calls Tryz.prog 40 #[.int .i64 d.which, .int .i64 8] w' fun e w'' => e = .returned (.int .i64 (kw : Int)) ∧ w'' = w') := hidI (fun w' => by rw [← kw0]; exact Pg.pick_any w' d.which 8 ok.which (by omega) (by omega))
        have PP : Hid (∀ w', Calls Tryz.prog 40 #[.int .i64 d.page, .int .i64 34] w' fun e w'' => e = .returned (.int .i64 (kp : Int)) ∧ w'' = w') := hidI (fun w' => by rw [← kp0]; exact Pg.pick_any w' d.page 34 ok.page (by omega) (by omega))
        have OK := hidI ok
        have HCC : Hid (∀ w', Fr [] w w' → w'.cell? ⟨b0, off + i * 3, none⟩ = some (.int .i64 d.op)) := hidI (fun w' f => by
          obtain ⟨_, b2, o2, e2, q, _⟩ := (HD.out.kept f) i d hd
          cases e2
          exact q)
        clear ok hd
        go_wp2_with fail
        go_quiet ((go_at_call 40; exact Calls.quiet_of_same (Pg.pick_any _ _ _ (by first | exact OK.out.which | exact OK.out.page) (by omega) (by omega))))
        rw [kw0, kp0]
        have fq : Fr [] wr (wr.drewN nq) := (Fr.refl [] wr).drewN nq
        have HS1 := hidI (HS.out.quiet fq)
        generalize wr.drewN nq = w4 at fq HS1 ⊢
        have hbp : (1000 + 400 * (i : Int)) ≤ 40000 := by omega
        have SX := in_setRoot HS1.out.i (by have := HS1.out.ph; omega) (by obtain ⟨tk, h⟩ := HS1.out.sp; rw [HS1.out.pg]; exact h.sp.hd) kw kp (by omega) (by rw [HS1.out.pg]; omega)
        have HKW := hidI (show kw < 8 ∧ kp < 34 by omega)
        clear kw0 kp0 c0 c1 c2 fq
        go_wp2_with fail
        refine SX.mono ?_
        rintro e w5 ⟨f, rfl, P5⟩
        clear SX
        rcases P5.out with ⟨rfl, _, b5, D5⟩ | ⟨rfl, b5, H5, D5⟩
        · have AX := hidI (in_abo D5.i (by have := D5.ph; have := HS1.out.ph; omega) (by omega))
          clear D5
          go_wp2_with fail
          refine AX.out.mono ?_
          rintro e w6 ⟨rfl, b6, P6⟩
          go_wp2_with fail
          go_ret
          exact ⟨rfl, P6.out.1.ab.fr⟩
        · have R6 := hidI (HS1.out.root HKW.out.1 HKW.out.2 D5)
          have hb5 : w5.heap[rb]? = some (.cells (r8 r) 121) := (D5.i.ab.kp _ List.mem_cons_self).1
          have z5 := frozen_of_row w5 rb kw _ _ hb5
          have c5 := r8_cell hb5 HKW.out.1
          have kw8 : (kw : Int) < 8 := by omega
          have f5 : Fr [rb] w5 (w5.setCell ⟨rb, kw, none⟩ (.int .i64 (kp : Int))) := fr_set w5 rb kw _
          clear D5 hb5
          have c6 := HCC.out _ R6.out.i.ab.fr
          go_upto_if 62 with fail
          go_cut [9, 10] from 60 to 109 (fun s9 s10 wx => Hid (∃ b H V, RtS w wx bp rb m U b H V (upd r kw kp) (1000 + 400 * i + 229) (4 + i)))
          case first =>
            have TX := hidI (R6.out.take (by omega))
            clear c5 z5 f5 c6
            by_cases ho : Int.tmod d.op 3 = 0
            · go_wp2_with fail
              refine TX.out.mono ?_
              rintro e w7 ⟨q, f, rfl, hf, b7, H7, V7, R7⟩
              rcases hf with rfl | rfl
              · go_wp2_with fail
                go_meet
                exact hidI ⟨b7, H7, V7, R7.out.le (by omega) (by omega)⟩
              · go_wp2_with fail
                go_meet
                exact hidI ⟨b7, H7, V7, R7.out.le (by omega) (by omega)⟩
            · go_wp2_with fail
              go_meet
              exact hidI ⟨b5, H5, _, R6.out.le (by omega) (by omega)⟩
          case rest =>
            obtain ⟨b7, H7, V7, R7⟩ : ∃ b7 H7 V7, Hid (RtS w wc bp rb m U b7 H7 V7 (upd r kw kp) (1000 + 400 * i + 229) (4 + i)) := by
              obtain ⟨b7, H7, V7, h⟩ := hcut.out
              exact ⟨b7, H7, V7, hidI h⟩
            have c7 := HCC.out _ R7.out.i.ab.fr
            clear c5 z5 f5 c6 R6
            go_upto_region 23 with fail
            go_cut [90] from 74 to 109 (fun s90 wx => s90 = .bool false ∧ Hid (∃ b m U H V, RtS w wx bp rb m U b H V (upd r kw kp) (1000 + 400 * i + 264) (5 + i)))
            case first =>
              have TX := hidI (R7.out.turn (by omega) (by omega))
              by_cases ho : Int.tmod d.op 5 = 0
              · go_wp2_with (first
                  | (go_at_call 32; refine TX.out.mono ?_; rintro e w8 ⟨rfl, T8⟩)
                  | (go_at_call 30; refine T8.out.mono ?_; rintro e w9 ⟨rfl, m9, U9, b9, H9, R9⟩))
                go_meet
                exact ⟨rfl, hidI ⟨b9, m9, U9, H9, V7, R9.out.le (by omega) (by omega)⟩⟩
              · go_wp2_with fail
                go_meet
                exact ⟨rfl, hidI ⟨b7, m, U, H7, V7, R7.out.le (by omega) (by omega)⟩⟩
            case rest =>
              obtain ⟨rfl, hcut⟩ := hcut
              obtain ⟨b9, m9, U9, H9, V9, R9⟩ : ∃ b9 m9 U9 H9 V9, Hid (RtS w wc bp rb m9 U9 b9 H9 V9 (upd r kw kp) (1000 + 400 * i + 264) (5 + i)) := by
                obtain ⟨b9, m9, U9, H9, V9, h⟩ := hcut.out
                exact ⟨b9, m9, U9, H9, V9, hidI h⟩
              obtain ⟨r1, hr1⟩ : ∃ r1, upd r kw kp = r1 := ⟨_, rfl⟩
              rw [hr1] at R9
              clear hcut hr1 R7 c7
              go_wp2_with fail
              go_loopg [11] 8 (fun g2 s11 wx => ∃ k : Nat, k + g2 = 8 ∧ s11 = .int .i64 (k : Int) ∧ Hid (∃ b9, RtS w wx bp rb m9 U9 b9 H9 V9 r1 (1000 + 400 * i + 264) (5 + i)))
              case atStart => exact ⟨0, by omega, rfl, hidI ⟨b9, R9.out⟩⟩
              case round =>
                obtain ⟨k, hk, rfl, HR⟩ := hrel
                clear R9
                obtain ⟨ba, R9⟩ : ∃ ba, Hid (RtS w wr bp rb m9 U9 ba H9 V9 r1 (1000 + 400 * i + 264) (5 + i)) := by
                  obtain ⟨ba, h⟩ := HR.out
                  exact ⟨ba, hidI h⟩
                clear HR
                by_cases hk8 : k < 8
                · have q1 : (k : Int) < 8 := by omega
                  obtain ⟨g2, rfl⟩ : ∃ g2, gk = g2 + 1 := ⟨gk - 1, by omega⟩
                  have RX := rd_root R9.out.i.ab R9.out.i.tx.sh (by rw [R9.out.pg]; omega) (by rw [R9.out.pg]; omega) (by obtain ⟨tk, h⟩ := R9.out.sp; rw [R9.out.pg]; exact h.sp.hd) k hk8
                  rw [R9.out.rt k hk8] at RX
                  go_wp2_with fail
                  refine RX.mono ?_
                  rintro e wa ⟨bb, rfl, RB⟩
                  have RA : Hid (RtS w wa bp rb m9 U9 bb H9 V9 r1 (1000 + 400 * i + 264) (5 + i)) := hidI ⟨R9.out.i.rd RB.out, by rw [RB.out.tr.pages]; exact R9.out.pg, R9.out.sp, R9.out.rt, R9.out.hr, by have h1 := (RB.out.did R9.out.i).ph; have h2 := R9.out.ph; omega, R9.out.sq⟩
                  have ca := r8_cell RA.out.box hk8
                  clear RX RB R9
                  go_wp2_with fail
                  go_roundg g2
                  case measure => omega
                  case rel => exact ⟨k + 1, by omega, by go_num, hidI ⟨bb, RA.out⟩⟩
                · have q1 : ¬ (k : Int) < 8 := by omega
                  go_wp2_with fail
                  go_roundg g
                  case measure => omega
                  case rel => exact ⟨i + 1, by omega, by go_num, hidI ⟨ba, m9, U9, H9, V9, r1, R9.out.le (by omega) (by omega)⟩⟩
      · have q0 : ¬ (i : Int) < (n : Int) := by omega
        go_wp2_with fail
        go_ret
        exact ⟨rfl, HS.out.i.ab.fr⟩
end Go.Proofs.YtopaeomjndblkaaGreat

