/-
  SpaceOnce: a transaction's end and the next one's beginning, the rows set between; a page that was taken.
-/
import Derived.Test.YtopaeomjndblkaaGreatY50Z
import Derived.Deep.LoopGhost
import Derived.Deep.CutRange
import Derived.BigQuiet
import Derived.Deep.AppendLies
import Derived.Laws.MakeOwn
import Derived.Laws.AppendOwnNone
namespace Go.Proofs.YtopaeomjndblkaaGreat
open Go.RowKit Go.Maps
open Pg (SpE diffS byteAt)

/-- The law's eight roots. -/
def r8 (r : Nat → Nat) : Array Value := ((List.range 8).map fun k => Value.int .i64 (r k : Int)).toArray
theorem r8_cell {w : World} {rb : Nat} {r : Nat → Nat} (h : w.heap[rb]? = some (.cells (r8 r) 121)) {j : Nat} (hj : j < 8) : w.cell? ⟨rb, j, none⟩ = some (.int .i64 (r j : Int)) := by
  rw [cell_of_row w rb j _ _ _ h]
  simp [r8, hj]
def upd (r : Nat → Nat) (k v : Nat) : Nat → Nat := fun j => if j = k then v else r j
theorem r8_set {w : World} {rb : Nat} {r : Nat → Nat} (h : w.heap[rb]? = some (.cells (r8 r) 121)) {k : Nat} (v : Nat) (hk : k < 8) : (w.setCell ⟨rb, k, none⟩ (.int .i64 (v : Int))).heap[rb]? = some (.cells (r8 (upd r k v)) 121) := by
  have h1 := heap_setCell_same w rb k _ _ (.int .i64 (v : Int)) h
  rw [h1]
  congr 2
  have : k = 0 ∨ k = 1 ∨ k = 2 ∨ k = 3 ∨ k = 4 ∨ k = 5 ∨ k = 6 ∨ k = 7 := by omega
  rcases this with e | e | e | e | e | e | e | e <;> subst e <;> rfl
theorem r8_zero : (#[.int .i64 0, .int .i64 0, .int .i64 0, .int .i64 0, .int .i64 0, .int .i64 0, .int .i64 0, .int .i64 0] : Array Value) = r8 (fun _ => 0) := rfl
/-- The law between two of its steps. -/
structure RtS (w0 w : World) (bp rb : Nat) (m : Mst) (U : Pages) (b : Bk) (H : List Ch) (V : Pages) (r : Nat → Nat) (p s : Int) : Prop where
  i : In w0 w bp [(rb, .cells (r8 r) 121)] 72 m U b H V
  pg : b.x.pages = 34
  sp : ∃ tk, Spz 34 V tk
  rt : ∀ k, k < 8 → numAt (V 0) (8 + 4 * k) = r k
  hr : w0.heap.size ≤ rb
  ph : phN b H ≤ p
  sq : m.seq ≤ s
theorem RtS.box {w0 w : World} {bp rb : Nat} {m : Mst} {U : Pages} {b : Bk} {H : List Ch} {V : Pages} {r : Nat → Nat} {p s : Int} (h : RtS w0 w bp rb m U b H V r p s) : w.heap[rb]? = some (.cells (r8 r) 121) := (h.i.ab.kp _ List.mem_cons_self).1
theorem RtS.quiet {w0 w w' : World} {bp rb : Nat} {m : Mst} {U : Pages} {b : Bk} {H : List Ch} {V : Pages} {r : Nat → Nat} {p s : Int} (h : RtS w0 w bp rb m U b H V r p s) (f : Fr [] w w') : RtS w0 w' bp rb m U b H V r p s := ⟨h.i.quiet f, h.pg, h.sp, h.rt, h.hr, h.ph, h.sq⟩
theorem RtS.le {w0 w : World} {bp rb : Nat} {m : Mst} {U : Pages} {b : Bk} {H : List Ch} {V : Pages} {r : Nat → Nat} {p s p' s' : Int} (h : RtS w0 w bp rb m U b H V r p s) (hp : p ≤ p') (hs : s ≤ s') : RtS w0 w bp rb m U b H V r p' s' := ⟨h.i, h.pg, h.sp, h.rt, h.hr, by have := h.ph; omega, by have := h.sq; omega⟩
/-- The root is set, in the book and in the law's row. -/
theorem RtS.root {w0 w w1 : World} {bp rb : Nat} {m : Mst} {U : Pages} {b b1 : Bk} {H H1 : List Ch} {V : Pages} {r : Nat → Nat} {p s : Int} (h : RtS w0 w bp rb m U b H V r p s) {k v : Nat} (hk : k < 8) (hv : v < 34) (d : Did w0 w1 bp [(rb, .cells (r8 r) 121)] 72 m U b H (setPg V 0 (putAt (V 0) (8 + 4 * k) v)) 132 b1 H1) : RtS w0 (w1.setCell ⟨rb, k, none⟩ (.int .i64 (v : Int))) bp rb m U b1 H1 (rootV V k v) (upd r k v) (p + 132) s := by
  have hb1 : w1.heap[rb]? = some (.cells (r8 r) 121) := (d.i.ab.kp _ List.mem_cons_self).1
  have f := fr_set w1 rb k (.int .i64 (v : Int))
  have aw := d.i.ab.bk.away hb1 (by decide) (by decide) (by decide) (by decide)
  have A1 : Ab w0 w1 bp b1 [] := d.i.ab.less (fun p hp => nomatch hp)
  have A2 := A1.put f aw.1 aw.2.1 aw.2.2 h.hr (fun p hp => nomatch hp)
  have A3 := A2.add (r8_set hb1 v hk) aw.2.1
  have hl : (V 0).length = 512 := h.i.len (by rw [h.pg]; omega)
  obtain ⟨tk, hsp⟩ := h.sp
  refine ⟨d.i.on A3, by rw [d.tr.pages]; exact h.pg, ⟨tk, hsp.root hl hk hv (by omega)⟩, fun j hj => ?_, h.hr, ?_, h.sq⟩
  · rw [rootV_root hl hk hj (by omega), h.rt j hj]
    rfl
  · have h1 := d.ph
    have h2 := h.ph
    omega
/-- A Take, however it ends. -/
theorem RtS.take {w0 w : World} {bp rb : Nat} {m : Mst} {U : Pages} {b : Bk} {H : List Ch} {V : Pages} {r : Nat → Nat} {p s : Int} (h : RtS w0 w bp rb m U b H V r p s) (hp : p ≤ 300000) :
    Calls Tryz.prog 62 #[.pointer (some ⟨bp, 0, none⟩)] w fun e w' => ∃ q f : Int, e = .returned (.tuple #[.int .i64 q, .int .i64 f]) ∧ (f = 0 ∨ f = 5) ∧ ∃ b' H' V', Hid (RtS w0 w' bp rb m U b' H' V' r (p + 97) s) := by
  obtain ⟨tk, hsp⟩ := h.sp
  have hph := h.ph
  rcases low_or V 34 with hn | ⟨q, hl⟩
  · refine (stake_none h.i (by rw [h.pg]; exact hsp.sp) (by rw [h.pg]; exact hn)).mono ?_
    rintro e w' ⟨he, b', D⟩
    have d := D.out
    exact ⟨0, 5, he, Or.inr rfl, b', H, V, hidI ⟨d.i, by rw [d.tr.pages]; exact h.pg, h.sp, h.rt, h.hr, by have := d.ph; omega, h.sq⟩⟩
  · have ho := hsp.sp.free hl.2.1
    have hz := hsp.z q ho hl.1
    refine (stake_low h.i (by rw [h.pg]; exact hsp.sp) (p := q) (by rw [h.pg]; exact hl) 0 (fun S hS => cost_zs hz hS) (by omega)).mono ?_
    rintro e w' ⟨x, f, he, P⟩
    rcases P.out with ⟨rfl, rfl, _, b', H', V', hV, d⟩ | ⟨rfl, rfl, b', H', d⟩
    · have hV' : V' = V := by
        rcases hV with e | e
        · exact e
        · rw [e]; exact setPg_self hz
      subst hV'
      exact ⟨_, 5, he, Or.inr rfl, b', H', V', hidI ⟨d.i, by rw [d.tr.pages]; exact h.pg, h.sp, h.rt, h.hr, by have := d.ph; omega, h.sq⟩⟩
    · have hg := own_gt hl.1
      have h34 := h.pg
      have hq := hl.1
      refine ⟨_, 0, he, Or.inl rfl, b', H', _, hidI ⟨d.i, by rw [d.tr.pages]; exact h.pg, ⟨_, hsp.take hl.1 ho (h.i.len (by omega))⟩, fun k hk => ?_, h.hr, by have := d.ph; omega, h.sq⟩⟩
      rw [takeV_own hl.1 ho (by omega) (by omega)]
      exact h.rt k hk
theorem RtS.turn {w0 w : World} {bp rb : Nat} {m : Mst} {U : Pages} {b : Bk} {H : List Ch} {V : Pages} {r : Nat → Nat} {p s : Int} (h : RtS w0 w bp rb m U b H V r p s) (hp : p ≤ 300000) (hs : s ≤ 10000) :
    Calls Tryz.prog 32 #[.pointer (some ⟨bp, 0, none⟩)] w fun e w1 => e = .returned (.int .i64 0) ∧ Hid (Calls Tryz.prog 30 #[.pointer (some ⟨bp, 0, none⟩)] w1 fun e w' => e = .returned (.int .i64 0) ∧ ∃ m' U' b' H', Hid (RtS w0 w' bp rb m' U' b' H' V r (p + 35) (s + 1))) := by
  have hph := h.ph
  have hE := h.i.E
  have hsq := h.sq
  refine (in_com h.i (by omega)).mono ?_
  rintro e w1 ⟨he, b1, P1⟩
  refine ⟨he, hidI ?_⟩
  obtain ⟨I1, N1, E1, A1⟩ := P1.out
  refine (idl_beg I1 (by omega)).mono ?_
  rintro e w2 ⟨he2, b2, m2, P2⟩
  obtain ⟨I2, N2, p2, _, _⟩ := P2.out
  have hs2 := N2.s1
  exact ⟨he2, m2, V, b2, [], hidI ⟨I2, by rw [N2.pages, N1.pages]; exact h.pg, h.sp, h.rt, h.hr, by rw [p2, E1]; omega, by omega⟩⟩
set_option maxHeartbeats 8000000 in
set_option maxRecDepth 100000 in
theorem spaceRoots_law (w : World) (ad : Option Addr) (nL cL : Nat) (L : List SDo) (hnL : L.length = nL) (hsL : nL ≤ cL ∧ cL < 9223372036854775808) (hD : SDosAt w ad L) :
    Calls Tryz.prog 14 #[.slice ad nL cL] w fun e w' => e = .returned (.bool true) ∧ Fr [] w w' := by
  have HD := hidI hD
  have HL := hidI hnL
  clear hD hnL
  go_enter Tryz.func14, Tryz.ntmps14
  go_upto_if 18 with (go_at_call 58; refine (sawake_ok w).mono ?_; rintro e w1 ⟨rfl, f1⟩)
  go_cut [0] from 19 (fun s0 wx => ∃ n c, s0 = .slice ad n c ∧ n ≤ 80 ∧ n ≤ nL ∧ wx = w1)
  case first =>
    by_cases hlong : 80 < nL
    · have q0 : (80 : Int) < (nL : Int) := by omega
      obtain ⟨d, hd⟩ : ∃ d, L[0]? = some d := ⟨_, List.getElem?_eq_getElem (by have := HL.out; omega)⟩
      obtain ⟨_, b0, off, rfl, _⟩ := HD.out 0 d hd
      have q1 : (80 : Int) ≤ (cL : Int) := by omega
      clear hd
      go_wp2_with fail
      go_meet
      exact ⟨80, _, rfl, by omega, by omega, rfl⟩
    · have q0 : ¬ (80 : Int) < (nL : Int) := by omega
      go_wp2_with fail
      go_meet
      exact ⟨nL, _, rfl, by omega, by omega, rfl⟩
  case rest =>
    obtain ⟨n, c, rfl, hn8, hnL, rfl⟩ := hcut
    go_wp2_with fail
    refine (formatted_ok wc).mono ?_
    rintro e w2 ⟨bp, rfl, P⟩
    have fa := (Fr.refl [] w2).alloc (.cells #[.int .i64 0, .int .i64 0, .int .i64 0, .int .i64 0, .int .i64 0, .int .i64 0, .int .i64 0, .int .i64 0] 121)
    have ha := heap_alloc_new w2 (.cells #[.int .i64 0, .int .i64 0, .int .i64 0, .int .i64 0, .int .i64 0, .int .i64 0, .int .i64 0, .int .i64 0] 121)
    obtain ⟨w3, hw3⟩ : ∃ w3, w2.alloc (.cells #[.int .i64 0, .int .i64 0, .int .i64 0, .int .i64 0, .int .i64 0, .int .i64 0, .int .i64 0, .int .i64 0] 121) = w3 := ⟨_, rfl⟩
    obtain ⟨rb, hrb⟩ : ∃ rb, w2.heap.size = rb := ⟨_, rfl⟩
    rw [hw3] at fa ha
    rw [hrb] at ha
    have S0 : Hid (∃ b m U H V r, RtS w w3 bp rb m U b H V r 1000 4) := hidI (by
      obtain ⟨b, m, H, I, pg, ph, _, sq⟩ := P.out
      have I2 : In w w2 bp [] 72 m Z0 b H (fmtV 34 Z0) := ⟨⟨I.ab.bk, f1.trans I.ab.fr, fun k hk => Nat.le_trans f1.size (I.ab.new k hk), I.ab.ebp, I.ab.kp⟩, I.env, I.tx, I.un⟩
      have I3 := I2.quiet fa
      have hn : rb ∉ b.dp :: b.x.own := (I3.ab.bk.away ha (by decide) (by decide) (by decide) (by decide)).2.1
      exact ⟨b, m, Z0, H, _, fun _ => 0, I3.on (I3.ab.add (by rw [← r8_zero]; exact ha) hn), pg, ⟨_, fmt_spz (fun t _ => Z0_len _) (by omega) (fun p _ _ => rfl)⟩, fun k hk => fmtV_root hk, by have := I2.ab.fr.size; omega, by omega, by omega⟩)
    clear P fa ha
    go_wp2_with fail
    go_loopg [5] n (fun g s5 wx => ∃ i : Nat, i + g = n ∧ s5 = .int .i64 (i : Int) ∧ Hid (∃ b m U H V r, RtS w wx bp rb m U b H V r (1000 + 400 * i) (4 + i)))
    case atStart => exact ⟨0, by omega, rfl, by simpa using S0⟩
    case round =>
      obtain ⟨i, hi, rfl, HR⟩ := hrel
      obtain ⟨b, m, U, H, V, r, HS⟩ : ∃ b m U H V r, Hid (RtS w wr bp rb m U b H V r (1000 + 400 * i) (4 + i)) := by
        obtain ⟨b, m, U, H, V, r, h⟩ := HR.out
        exact ⟨b, m, U, H, V, r, hidI h⟩
      clear HR
      by_cases hlt : i < n
      · have q0 : (i : Int) < (n : Int) := by omega
        obtain ⟨g, rfl⟩ : ∃ g, gk = g + 1 := ⟨gk - 1, by omega⟩
        obtain ⟨d, hd⟩ : ∃ d, L[i]? = some d := ⟨_, List.getElem?_eq_getElem (by have := HL.out; omega)⟩
        obtain ⟨ok, b0, off, rfl, c0, c1, c2⟩ := (HD.out.kept HS.out.i.ab.fr) i d hd
        obtain ⟨kw, kw0, kw1, _⟩ := pick_in wr d.which 8 ok.which (by omega) (by omega)
        obtain ⟨kp, kp0, kp1, _⟩ := pick_in wr d.page 34 ok.page (by omega) (by omega)
        have PW : Hid (∀ w', Calls Tryz.prog 40 #[.int .i64 d.which, .int .i64 8] w' fun e w'' => e = .returned (.int .i64 (kw : Int)) ∧ w'' = w') := hidI (fun w' => by rw [← kw0]; exact Pg.pick_any w' d.which 8 ok.which (by omega) (by omega))
        have PP : Hid (∀ w', Calls Tryz.prog 40 #[.int .i64 d.page, .int .i64 34] w' fun e w'' => e = .returned (.int .i64 (kp : Int)) ∧ w'' = w') := hidI (fun w' => by rw [← kp0]; exact Pg.pick_any w' d.page 34 ok.page (by omega) (by omega))
        have OK := hidI ok
        have HCC : Hid (∀ w', Fr [] w w' → w'.cell? ⟨b0, off + i * 3, none⟩ = some (.int .i64 d.op)) := hidI (fun w' f => by
          obtain ⟨_, b2, o2, e2, q, _⟩ := (HD.out.kept f) i d hd
          cases e2
          exact q)
        clear ok hd
        go_wp2_with fail
        go_quiet ((go_at_call 40; exact Calls.quiet_of_same (Pg.pick_any _ _ _ (by first | exact OK.out.which | exact OK.out.page) (by omega) (by omega))))
        rw [kw0, kp0]
        have fq : Fr [] wr (wr.drewN nq) := (Fr.refl [] wr).drewN nq
        have HS1 := hidI (HS.out.quiet fq)
        generalize wr.drewN nq = w4 at fq HS1 ⊢
        have hbp : (1000 + 400 * (i : Int)) ≤ 40000 := by omega
        have SX := in_setRoot HS1.out.i (by have := HS1.out.ph; omega) (by obtain ⟨tk, h⟩ := HS1.out.sp; rw [HS1.out.pg]; exact h.sp.hd) kw kp (by omega) (by rw [HS1.out.pg]; omega)
        have HKW := hidI (show kw < 8 ∧ kp < 34 by omega)
        clear kw0 kp0 c0 c1 c2 fq
        go_wp2_with fail
        refine SX.mono ?_
        rintro e w5 ⟨f, rfl, P5⟩
        clear SX
        rcases P5.out with ⟨rfl, _, b5, D5⟩ | ⟨rfl, b5, H5, D5⟩
        · have AX := hidI (in_abo D5.i (by have := D5.ph; have := HS1.out.ph; omega) (by omega))
          clear D5
          go_wp2_with fail
          refine AX.out.mono ?_
          rintro e w6 ⟨rfl, b6, P6⟩
          go_wp2_with fail
          go_ret
          exact ⟨rfl, P6.out.1.ab.fr⟩
        · have R6 := hidI (HS1.out.root HKW.out.1 HKW.out.2 D5)
          have hb5 : w5.heap[rb]? = some (.cells (r8 r) 121) := (D5.i.ab.kp _ List.mem_cons_self).1
          have z5 := frozen_of_row w5 rb kw _ _ hb5
          have c5 := r8_cell hb5 HKW.out.1
          have kw8 : (kw : Int) < 8 := by omega
          have f5 : Fr [rb] w5 (w5.setCell ⟨rb, kw, none⟩ (.int .i64 (kp : Int))) := fr_set w5 rb kw _
          clear D5 hb5
          have c6 := HCC.out _ R6.out.i.ab.fr
          go_upto_if 62 with fail
          go_cut [9, 10] from 60 to 109 (fun s9 s10 wx => Hid (∃ b H V, RtS w wx bp rb m U b H V (upd r kw kp) (1000 + 400 * i + 229) (4 + i)))
          case first =>
            have TX := hidI (R6.out.take (by omega))
            clear c5 z5 f5 c6
            by_cases ho : Int.tmod d.op 3 = 0
            · go_wp2_with fail
              refine TX.out.mono ?_
              rintro e w7 ⟨q, f, rfl, hf, b7, H7, V7, R7⟩
              rcases hf with rfl | rfl
              · go_wp2_with fail
                go_meet
                exact hidI ⟨b7, H7, V7, R7.out.le (by omega) (by omega)⟩
              · go_wp2_with fail
                go_meet
                exact hidI ⟨b7, H7, V7, R7.out.le (by omega) (by omega)⟩
            · go_wp2_with fail
              go_meet
              exact hidI ⟨b5, H5, _, R6.out.le (by omega) (by omega)⟩
          case rest =>
            obtain ⟨b7, H7, V7, R7⟩ : ∃ b7 H7 V7, Hid (RtS w wc bp rb m U b7 H7 V7 (upd r kw kp) (1000 + 400 * i + 229) (4 + i)) := by
              obtain ⟨b7, H7, V7, h⟩ := hcut.out
              exact ⟨b7, H7, V7, hidI h⟩
            have c7 := HCC.out _ R7.out.i.ab.fr
            clear c5 z5 f5 c6 R6
            go_upto_region 23 with fail
            go_cut [90] from 74 to 109 (fun s90 wx => s90 = .bool false ∧ Hid (∃ b m U H V, RtS w wx bp rb m U b H V (upd r kw kp) (1000 + 400 * i + 264) (5 + i)))
            case first =>
              have TX := hidI (R7.out.turn (by omega) (by omega))
              by_cases ho : Int.tmod d.op 5 = 0
              · go_wp2_with (first
                  | (go_at_call 32; refine TX.out.mono ?_; rintro e w8 ⟨rfl, T8⟩)
                  | (go_at_call 30; refine T8.out.mono ?_; rintro e w9 ⟨rfl, m9, U9, b9, H9, R9⟩))
                go_meet
                exact ⟨rfl, hidI ⟨b9, m9, U9, H9, V7, R9.out.le (by omega) (by omega)⟩⟩
              · go_wp2_with fail
                go_meet
                exact ⟨rfl, hidI ⟨b7, m, U, H7, V7, R7.out.le (by omega) (by omega)⟩⟩
            case rest =>
              obtain ⟨rfl, hcut⟩ := hcut
              obtain ⟨b9, m9, U9, H9, V9, R9⟩ : ∃ b9 m9 U9 H9 V9, Hid (RtS w wc bp rb m9 U9 b9 H9 V9 (upd r kw kp) (1000 + 400 * i + 264) (5 + i)) := by
                obtain ⟨b9, m9, U9, H9, V9, h⟩ := hcut.out
                exact ⟨b9, m9, U9, H9, V9, hidI h⟩
              obtain ⟨r1, hr1⟩ : ∃ r1, upd r kw kp = r1 := ⟨_, rfl⟩
              rw [hr1] at R9
              clear hcut hr1 R7 c7
              go_wp2_with fail
              go_loopg [11] 8 (fun g2 s11 wx => ∃ k : Nat, k + g2 = 8 ∧ s11 = .int .i64 (k : Int) ∧ Hid (∃ b9, RtS w wx bp rb m9 U9 b9 H9 V9 r1 (1000 + 400 * i + 264) (5 + i)))
              case atStart => exact ⟨0, by omega, rfl, hidI ⟨b9, R9.out⟩⟩
              case round =>
                obtain ⟨k, hk, rfl, HR⟩ := hrel
                clear R9
                obtain ⟨ba, R9⟩ : ∃ ba, Hid (RtS w wr bp rb m9 U9 ba H9 V9 r1 (1000 + 400 * i + 264) (5 + i)) := by
                  obtain ⟨ba, h⟩ := HR.out
                  exact ⟨ba, hidI h⟩
                clear HR
                by_cases hk8 : k < 8
                · have q1 : (k : Int) < 8 := by omega
                  obtain ⟨g2, rfl⟩ : ∃ g2, gk = g2 + 1 := ⟨gk - 1, by omega⟩
                  have RX := rd_root R9.out.i.ab R9.out.i.tx.sh (by rw [R9.out.pg]; omega) (by rw [R9.out.pg]; omega) (by obtain ⟨tk, h⟩ := R9.out.sp; rw [R9.out.pg]; exact h.sp.hd) k hk8
                  rw [R9.out.rt k hk8] at RX
                  go_wp2_with fail
                  refine RX.mono ?_
                  rintro e wa ⟨bb, rfl, RB⟩
                  have RA : Hid (RtS w wa bp rb m9 U9 bb H9 V9 r1 (1000 + 400 * i + 264) (5 + i)) := hidI ⟨R9.out.i.rd RB.out, by rw [RB.out.tr.pages]; exact R9.out.pg, R9.out.sp, R9.out.rt, R9.out.hr, by have h1 := (RB.out.did R9.out.i).ph; have h2 := R9.out.ph; omega, R9.out.sq⟩
                  have ca := r8_cell RA.out.box hk8
                  clear RX RB R9
                  go_wp2_with fail
                  go_roundg g2
                  case measure => omega
                  case rel => exact ⟨k + 1, by omega, by go_num, hidI ⟨bb, RA.out⟩⟩
                · have q1 : ¬ (k : Int) < 8 := by omega
                  go_wp2_with fail
                  go_roundg g
                  case measure => omega
                  case rel => exact ⟨i + 1, by omega, by go_num, hidI ⟨ba, m9, U9, H9, V9, r1, R9.out.le (by omega) (by omega)⟩⟩
      · have q0 : ¬ (i : Int) < (n : Int) := by omega
        go_wp2_with fail
        go_ret
        exact ⟨rfl, HS.out.i.ab.fr⟩
end Go.Proofs.YtopaeomjndblkaaGreat

namespace Go.Proofs.YtopaeomjndblkaaGreat
open Go.RowKit Go.Maps
open Pg (SpE diffS byteAt)

/-- The law's row of the pages that are taken. -/
def arM (V : Pages) : Array Value := ((List.range 64).map fun k => Value.bool (decide (2 ≤ k ∧ k < 34) && MkB V k)).toArray
theorem arM_cell {w : World} {g : Nat} {V : Pages} (h : w.heap[g]? = some (.cells (arM V) 138)) {j : Nat} (h2 : 2 ≤ j) (hj : j < 34) : w.cell? ⟨g, j, none⟩ = some (.bool (MkB V j)) := by
  rw [cell_of_row w g j _ _ _ h]
  simp [arM, show j < 64 by omega, h2, hj]
theorem arM_set {V V' : Pages} {p : Nat} {b : Bool} (h2 : 2 ≤ p) (hp : p < 34) (hb : ∀ k, k < 34 → MkB V' k = if k = p then b else MkB V k) : (arM V).setIfInBounds p (.bool b) = arM V' := by
  unfold arM
  apply Array.ext'
  simp only [Array.toList_setIfInBounds]
  refine List.ext_getElem (by simp) fun i h1 h3 => ?_
  simp only [List.getElem_set, List.getElem_map, List.getElem_range]
  by_cases e : p = i
  · subst e
    rw [if_pos rfl, hb p hp, if_pos rfl]
    simp [h2, hp]
  · rw [if_neg e]
    by_cases hi : 2 ≤ i ∧ i < 34
    · rw [hb i hi.2, if_neg (fun e2 => e e2.symm)]
    · simp [hi]
theorem arM_size (V : Pages) : (arM V).size = 64 := by simp [arM]
theorem arM_zero : ∀ V : Pages, (∀ k, 2 ≤ k → k < 34 → MkB V k = false) → arM V = ((List.range 64).map fun _ => Value.bool false).toArray := fun V h => by
  unfold arM
  congr 1
  refine List.map_congr_left fun k _ => ?_
  by_cases hk : 2 ≤ k ∧ k < 34
  · rw [h k hk.1 hk.2, Bool.and_false]
  · simp [hk]
/-- All pages have at most one byte that is none. -/
def OneV (V : Pages) : Prop := ∀ p, 2 ≤ p → p < 34 → ∃ q x, V p = (zs 512).set q x
theorem cost_one {V : Pages} {p : Nat} (h : ∃ q x, V p = (zs 512).set q x) {S : List SpE} (hS : S.map (fun e => (e.off, e.off + e.n)) = diffS (V p) (zs 512)) : sumN S ≤ ((97 : Nat) : Int) := by
  obtain ⟨q, x, e⟩ := h
  have h1 := sum_within (i := q) (j := q + 1) (fun k _ hk => by rw [e]; exact byteAt_set_ne x (by omega)) hS
  omega
theorem cntF_take {V : Pages} {p : Nat} : ∀ {n : Nat} {V' : Pages}, (∀ k, k < n → MkB V' k = (MkB V k || decide (k = p))) → p < n → MkB V p = false → cntF V' n + 1 = cntF V n
  | 0, _, _, hp, _ => absurd hp (by omega)
  | n + 1, V', h, hp, hm => by
    have e1 : cntF V' (n + 1) = cntF V' n + if MkB V' n then 0 else 1 := rfl
    have e2 : cntF V (n + 1) = cntF V n + if MkB V n then 0 else 1 := rfl
    by_cases e : p = n
    · subst e
      have h3 : cntF V' p = cntF V p := cntF_congr fun k hk => by rw [h k (by omega), decide_eq_false (by omega), Bool.or_false]
      rw [e1, e2, h p (by omega), hm, h3]
      simp
    · have ih := cntF_take (n := n) (fun k hk => h k (by omega)) (by omega) hm
      rw [e1, e2, h n (by omega), decide_eq_false (by omega), Bool.or_false]
      omega
theorem cntF_give {V : Pages} {p : Nat} : ∀ {n : Nat} {V' : Pages}, (∀ k, k < n → MkB V' k = (MkB V k && decide (k ≠ p))) → p < n → MkB V p = true → cntF V' n = cntF V n + 1
  | 0, _, _, hp, _ => absurd hp (by omega)
  | n + 1, V', h, hp, hm => by
    have e1 : cntF V' (n + 1) = cntF V' n + if MkB V' n then 0 else 1 := rfl
    have e2 : cntF V (n + 1) = cntF V n + if MkB V n then 0 else 1 := rfl
    by_cases e : p = n
    · subst e
      have h3 : cntF V' p = cntF V p := cntF_congr fun k hk => by rw [h k (by omega), decide_eq_true (by omega), Bool.and_true]
      rw [e1, e2, h p (by omega), hm, h3]
      simp
    · have ih := cntF_give (n := n) (fun k hk => h k (by omega)) (by omega) hm
      rw [e1, e2, h n (by omega), decide_eq_true (by omega), Bool.and_true]
      omega
theorem cntF_none {V : Pages} : ∀ {n : Nat}, NoneF V n → cntF V n = 0
  | 0, _ => rfl
  | n + 1, h => by
    have e1 : cntF V (n + 1) = cntF V n + if MkB V n then 0 else 1 := rfl
    rw [e1, cntF_none fun k hk => h k (by omega), h n (by omega)]
    rfl
theorem cntF_own {V : Pages} {n a : Nat} (h : ∀ k, k < a → MkB V k = true) (ha : a ≤ n) : cntF V n ≤ n - a := by
  induction n with
  | zero => simp [cntF]
  | succ n ih =>
    have e1 : cntF V (n + 1) = cntF V n + if MkB V n then 0 else 1 := rfl
    by_cases e : a ≤ n
    · have := ih e
      rw [e1]
      split <;> omega
    · have h0 : cntF V (n + 1) = 0 := cntF_none fun k hk => h k (by omega)
      omega
/-- The law between two of its steps. -/
structure OnS (w0 w : World) (bp mb kb : Nat) (m : Mst) (U : Pages) (b : Bk) (H : List Ch) (V : Pages) (p s : Int) : Prop where
  i : In w0 w bp [(mb, .cells (arM V) 138), (kb, .cells (arM U) 138)] 72 m U b H V
  pg : b.x.pages = 34
  sp : Sp 34 V
  su : Sp 34 U
  ov : OneV V
  ou : OneV U
  ne : mb ≠ kb
  hm : w0.heap.size ≤ mb
  hk : w0.heap.size ≤ kb
  ph : phN b H ≤ p
  sq : m.seq ≤ s
section
variable {w0 w w' : World} {bp mb kb : Nat} {m : Mst} {U : Pages} {b b' : Bk} {H H' : List Ch} {V V' : Pages} {p s p' s' c : Int}
theorem OnS.quiet (h : OnS w0 w bp mb kb m U b H V p s) (f : Fr [] w w') : OnS w0 w' bp mb kb m U b H V p s := { h with i := h.i.quiet f }
theorem OnS.le (h : OnS w0 w bp mb kb m U b H V p s) (hp : p ≤ p') (hs : s ≤ s') : OnS w0 w bp mb kb m U b H V p' s' := { h with ph := by have := h.ph; omega, sq := by have := h.sq; omega }
theorem OnS.bm (h : OnS w0 w bp mb kb m U b H V p s) : w.heap[mb]? = some (.cells (arM V) 138) := (h.i.ab.kp _ List.mem_cons_self).1
theorem OnS.bk (h : OnS w0 w bp mb kb m U b H V p s) : w.heap[kb]? = some (.cells (arM U) 138) := (h.i.ab.kp _ (List.mem_cons_of_mem _ List.mem_cons_self)).1
theorem OnS.rd (h : OnS w0 w bp mb kb m U b H V p s) (r : Rd w0 w' bp [(mb, .cells (arM V) 138), (kb, .cells (arM U) 138)] b b') : OnS w0 w' bp mb kb m U b' H V p s := { h with i := h.i.rd r, pg := by rw [r.tr.pages]; exact h.pg, ph := by have h1 := (r.did h.i).ph; have h2 := h.ph; omega }
/-- A call that left the taken pages as they were. -/
theorem OnS.did (h : OnS w0 w bp mb kb m U b H V p s) (d : Did w0 w' bp [(mb, .cells (arM V) 138), (kb, .cells (arM U) 138)] 72 m U b H V' c b' H') (hs : Sp 34 V') (ho : OneV V') (hb : ∀ k, k < 34 → MkB V' k = MkB V k) : OnS w0 w' bp mb kb m U b' H' V' (p + c) s := by
  have e : arM V' = arM V := by
    unfold arM
    congr 1
    refine List.map_congr_left fun k _ => ?_
    by_cases hk : 2 ≤ k ∧ k < 34
    · rw [hb k hk.2]
    · simp [hk]
  exact { h with i := by rw [e]; exact d.i, pg := by rw [d.tr.pages]; exact h.pg, sp := hs, ov := ho, ph := by have h1 := d.ph; have h2 := h.ph; omega }
/-- A call that turned one page's bit, and the law's row with it. -/
theorem OnS.turn (h : OnS w0 w bp mb kb m U b H V p s) (d : Did w0 w' bp [(mb, .cells (arM V) 138), (kb, .cells (arM U) 138)] 72 m U b H V' c b' H') (hs : Sp 34 V') (ho : OneV V') {q : Nat} {x : Bool} (h2 : 2 ≤ q) (hq : q < 34) (hb : ∀ k, k < 34 → MkB V' k = if k = q then x else MkB V k) : OnS w0 (w'.setCell ⟨mb, q, none⟩ (.bool x)) bp mb kb m U b' H' V' (p + c) s := by
  have b1 : w'.heap[mb]? = some (.cells (arM V) 138) := (d.i.ab.kp _ List.mem_cons_self).1
  have b2 : w'.heap[kb]? = some (.cells (arM U) 138) := (d.i.ab.kp _ (List.mem_cons_of_mem _ List.mem_cons_self)).1
  have f := fr_set w' mb q (.bool x)
  have a1 := d.i.ab.bk.away b1 (by decide) (by decide) (by decide) (by decide)
  have a2 := (d.i.ab.kp _ (List.mem_cons_of_mem _ List.mem_cons_self)).2
  have A1 : Ab w0 w' bp b' [(kb, .cells (arM U) 138)] := d.i.ab.less (fun p hp => List.mem_cons_of_mem _ hp)
  have A2 := A1.put f a1.1 a1.2.1 a1.2.2 h.hm (fun p hp => by have e : p = (kb, .cells (arM U) 138) := by simpa using hp
                                                              rw [e]; exact h.ne.symm)
  have h3 := heap_setCell_same w' mb q _ _ (.bool x) b1
  rw [arM_set h2 hq hb] at h3
  exact { h with i := d.i.on (A2.add h3 a1.2.1), pg := by rw [d.tr.pages]; exact h.pg, sp := hs, ov := ho, ph := by have h1 := d.ph; have h2 := h.ph; omega }
theorem OnS.cnt (h : OnS w0 w bp mb kb m U b H V p s) : cntF V 34 ≤ 32 := cntF_own (a := 2) (fun k hk => h.sp.own k (by have : ownN 34 = 2 := rfl; omega)) (by omega)
/-- Behind Abort and Begin: the row is what it was when the transaction began. -/
theorem OnS.back (h : OnS w0 w bp mb kb m U b H V p s) (hp : p ≤ 250000) (hs : s ≤ 10000) (i : In w0 w' bp [(mb, .cells (arM V) 138), (kb, .cells (arM U) 138)] 72 m U b' H' V') (pg : b'.x.pages = 34) (ph : phN b' H' ≤ p) :
    Calls Tryz.prog 33 #[.pointer (some ⟨bp, 0, none⟩)] w' fun e w1 => e = .returned (.int .i64 0) ∧ Hid (Calls Tryz.prog 30 #[.pointer (some ⟨bp, 0, none⟩)] w1 fun e w2 => e = .returned (.int .i64 0) ∧ ∃ m2 b2, Hid (w2.heap[mb]? = some (.cells (arM V) 138) ∧ w2.heap[kb]? = some (.cells (arM U) 138) ∧ OnS w0 (w2.setRow mb (arM U)) bp mb kb m2 U b2 [] U (p + 35) (s + 1) ∧ Fr [mb] w2 (w2.setRow mb (arM U)))) := by
  refine (in_abo i (by omega) (by omega)).mono ?_
  rintro e w1 ⟨he, b1, P1⟩
  refine ⟨he, hidI ?_⟩
  obtain ⟨I1, N1, E1, _⟩ := P1.out
  have hsq := h.sq
  refine (idl_beg I1 (by omega)).mono ?_
  rintro e w2 ⟨he2, b2, m2, P2⟩
  obtain ⟨I2, N2, p2, _, _⟩ := P2.out
  have b1m : w2.heap[mb]? = some (.cells (arM V) 138) := (I2.ab.kp _ List.mem_cons_self).1
  have b2k : w2.heap[kb]? = some (.cells (arM U) 138) := (I2.ab.kp _ (List.mem_cons_of_mem _ List.mem_cons_self)).1
  have a1 := I2.ab.bk.away b1m (by decide) (by decide) (by decide) (by decide)
  have f : Fr [mb] w2 (w2.setRow mb (arM U)) := ⟨rfl, rfl, rfl, by simp, fun i _ hn => setRow_other w2 mb i _ (fun e => hn (by simp [e]))⟩
  have A1 : Ab w0 w2 bp b2 [(kb, .cells (arM U) 138)] := I2.ab.less (fun p hp => List.mem_cons_of_mem _ hp)
  have A2 := A1.put f a1.1 a1.2.1 a1.2.2 h.hm (fun p hp => by have e : p = (kb, .cells (arM U) 138) := by simpa using hp
                                                              rw [e]; exact h.ne.symm)
  have A3 := A2.add (setRow_heap w2 mb _ _ _ _ b1m) a1.2.1
  have hs2 := N2.s1
  exact ⟨he2, m2, b2, hidI ⟨b1m, b2k, ⟨I2.on A3, by rw [N2.pages, N1.pages]; exact pg, h.su, h.su, h.ou, h.ou, h.ne, h.hm, h.hk, by rw [p2, E1]; omega, by omega⟩, f⟩⟩
/-- Commit, and the row is kept. -/
theorem OnS.keep (h : OnS w0 w bp mb kb m U b H V p s) (hp : p ≤ 250000) :
    Calls Tryz.prog 32 #[.pointer (some ⟨bp, 0, none⟩)] w fun e w1 => e = .returned (.int .i64 0) ∧ ∃ b1, Hid (w1.heap[mb]? = some (.cells (arM V) 138) ∧ w1.heap[kb]? = some (.cells (arM U) 138) ∧ Fr [kb] w1 (w1.setRow kb (arM V)) ∧ Idl w0 (w1.setRow kb (arM V)) bp [(mb, .cells (arM V) 138), (kb, .cells (arM V) 138)] 72 m b1 V ∧ b1.x.pages = 34 ∧ (b1.x.y.E : Int) ≤ p + 35) := by
  have hE := h.i.E
  have hph := h.ph
  refine (in_com h.i (by omega)).mono ?_
  rintro e w1 ⟨he, b1, P1⟩
  obtain ⟨I1, N1, E1, _⟩ := P1.out
  have b1m : w1.heap[mb]? = some (.cells (arM V) 138) := (I1.ab.kp _ List.mem_cons_self).1
  have b2k : w1.heap[kb]? = some (.cells (arM U) 138) := (I1.ab.kp _ (List.mem_cons_of_mem _ List.mem_cons_self)).1
  have a1 := I1.ab.bk.away b2k (by decide) (by decide) (by decide) (by decide)
  have f : Fr [kb] w1 (w1.setRow kb (arM V)) := ⟨rfl, rfl, rfl, by simp, fun i _ hn => setRow_other w1 kb i _ (fun e => hn (by simp [e]))⟩
  have A1 : Ab w0 w1 bp b1 [(mb, .cells (arM V) 138)] := I1.ab.less (fun p hp => by simp at hp; rw [hp]; exact List.mem_cons_self)
  have A2 := A1.put f a1.1 a1.2.1 a1.2.2 h.hk (fun p hp => by have e : p = (mb, .cells (arM V) 138) := by simpa using hp
                                                              rw [e]; exact h.ne)
  have A3 := A2.add (setRow_heap w1 kb _ _ _ _ b2k) a1.2.1
  have A4 : Ab w0 (w1.setRow kb (arM V)) bp b1 [(mb, .cells (arM V) 138), (kb, .cells (arM V) 138)] := A3.less (fun p hp => by
    simp at hp
    rcases hp with rfl | rfl
    · exact List.mem_cons_of_mem _ List.mem_cons_self
    · exact List.mem_cons_self)
  exact ⟨he, b1, hidI ⟨b1m, b2k, f, I1.on A4, by rw [N1.pages]; exact h.pg, by omega⟩⟩
end
end Go.Proofs.YtopaeomjndblkaaGreat

namespace Go.Proofs.YtopaeomjndblkaaGreat
open Go.RowKit Go.Maps
open Pg (SpE diffS byteAt)

theorem own34 : ownN 34 = 2 := rfl
/-- One call of Give. -/
theorem OnS.give {w0 w : World} {bp mb kb : Nat} {m : Mst} {U : Pages} {b : Bk} {H : List Ch} {V : Pages} {p s : Int} (h : OnS w0 w bp mb kb m U b H V p s) (hp : p ≤ 250000) {q : Nat} (h2 : 2 ≤ q) (hq : q < 34) :
    Calls Tryz.prog 63 #[.pointer (some ⟨bp, 0, none⟩), .int .i64 (q : Int)] w fun e w' => ∃ r : Int, e = .returned (.int .i64 r) ∧ Hid ((r = 5 ∧ MkB V q = true ∧ ∃ b', OnS w0 w' bp mb kb m U b' H V p s) ∨ (r = 2 ∧ MkB V q = false ∧ ∃ b', OnS w0 w' bp mb kb m U b' H V p s) ∨ (r = 0 ∧ MkB V q = true ∧ w'.heap[mb]? = some (.cells (arM V) 138) ∧ ∃ b' H', OnS w0 (w'.setCell ⟨mb, q, none⟩ (.bool false)) bp mb kb m U b' H' (bitV V q clrB) (p + 97) s)) := by
  have hph := h.ph
  have hsp : Sp b.x.pages V := by rw [h.pg]; exact h.sp
  have hl : (V (1 + q / 4096)).length = 512 := h.i.len (by rw [h.pg]; omega)
  cases hm : MkB V q with
  | false =>
    refine (sgive_arg h.i hsp (q : Int) (Or.inr (Or.inr (Or.inr (by rw [show ((q : Int)).toNat = q by omega]; exact hm))))).mono ?_
    rintro e w' ⟨he, b', D⟩
    exact ⟨2, he, hidI (Or.inr (Or.inl ⟨rfl, rfl, b', (h.did D.out h.sp h.ov (fun _ _ => rfl)).le (by omega) (by omega)⟩))⟩
  | true =>
    refine (sgive_in h.i hsp q (by rw [h.pg]; exact hq) (by rw [h.pg, own34]; exact h2) hm (by omega)).mono ?_
    rintro e w' ⟨r, he, P⟩
    rcases P.out with ⟨rfl, _, b', D⟩ | ⟨rfl, b', H', D⟩
    · exact ⟨5, he, hidI (Or.inl ⟨rfl, rfl, b', (h.did D h.sp h.ov (fun _ _ => rfl)).le (by omega) (by omega)⟩)⟩
    · refine ⟨0, he, hidI (Or.inr (Or.inr ⟨rfl, rfl, (D.i.ab.kp _ List.mem_cons_self).1, b', H', ?_⟩))⟩
      have hov : OneV (bitV V q clrB) := fun k h3 h4 => by rw [bitV_else (by omega)]; exact h.ov k h3 h4
      exact h.turn D (h.sp.give hq (by rw [own34]; exact h2) hl) hov h2 hq (fun k hk => by
        rw [bitV_clr hl]
        by_cases e : k = q
        · rw [if_pos e, decide_eq_false (by omega), Bool.and_false]
        · rw [if_neg e, decide_eq_true e, Bool.and_true])
theorem give_cnt {V : Pages} {q : Nat} (hl : (V (1 + q / 4096)).length = 512) (hq : q < 34) (hm : MkB V q = true) : cntF (bitV V q clrB) 34 = cntF V 34 + 1 := cntF_give (fun _ _ => bitV_clr hl) hq hm
theorem take_cnt {V : Pages} {q : Nat} (hl : (V (1 + q / 4096)).length = 512) (h2 : 2 ≤ q) (hq : q < 34) (hm : MkB V q = false) : cntF (takeV V q) 34 + 1 = cntF V 34 := cntF_take (fun _ hk => takeV_bit hq (by rw [own34]; exact h2) hk hl) hq hm
theorem take_one {V : Pages} {q : Nat} (h : OneV V) (h2 : 2 ≤ q) (hq : q < 34) : OneV (takeV V q) := fun k h3 h4 => by
  by_cases e : k = q
  · subst e
    rw [takeV_self hq (by rw [own34]; exact h2)]
    exact ⟨512, 0, by rw [List.set_eq_of_length_le (by rw [zs_length]; omega)]⟩
  · rw [takeV_own hq (by rw [own34]; exact h2) e (by omega)]
    exact h k h3 h4
/-- One call of Take. -/
theorem OnS.take {w0 w : World} {bp mb kb : Nat} {m : Mst} {U : Pages} {b : Bk} {H : List Ch} {V : Pages} {p s : Int} (h : OnS w0 w bp mb kb m U b H V p s) (hp : p ≤ 250000) :
    Calls Tryz.prog 62 #[.pointer (some ⟨bp, 0, none⟩)] w fun e w' => ∃ q r : Int, e = .returned (.tuple #[.int .i64 q, .int .i64 r]) ∧ Hid ((r = 5 ∧ q = 0 ∧ cntF V 34 = 0 ∧ ∃ b', OnS w0 w' bp mb kb m U b' H V p s) ∨ (r = 5 ∧ q = 0 ∧ 0 < cntF V 34 ∧ ∃ b' H' V', In w0 w' bp [(mb, .cells (arM V) 138), (kb, .cells (arM U) 138)] 72 m U b' H' V' ∧ b'.x.pages = 34 ∧ phN b' H' ≤ p + 97) ∨ (r = 0 ∧ ∃ k : Nat, q = (k : Int) ∧ 2 ≤ k ∧ k < 34 ∧ MkB V k = false ∧ ∃ b' H', Did w0 w' bp [(mb, .cells (arM V) 138), (kb, .cells (arM U) 138)] 72 m U b H (takeV V k) 194 b' H')) := by
  have hph := h.ph
  have hsp : Sp b.x.pages V := by rw [h.pg]; exact h.sp
  rcases low_or V 34 with hn | ⟨k, hl⟩
  · refine (stake_none h.i hsp (by rw [h.pg]; exact hn)).mono ?_
    rintro e w' ⟨he, b', D⟩
    exact ⟨0, 5, he, hidI (Or.inl ⟨rfl, rfl, cntF_none hn, b', (h.did D.out h.sp h.ov (fun _ _ => rfl)).le (by omega) (by omega)⟩)⟩
  · have ho := h.sp.free hl.2.1
    rw [own34] at ho
    have hk := hl.1
    have hlen : (V (1 + k / 4096)).length = 512 := h.i.len (by rw [h.pg]; omega)
    have hc := take_cnt hlen ho hk hl.2.1
    refine (stake_low h.i hsp (p := k) (by rw [h.pg]; exact hl) 97 (fun S hS => cost_one (h.ov k ho hk) hS) (by omega)).mono ?_
    rintro e w' ⟨x, r, he, P⟩
    rcases P.out with ⟨rfl, rfl, _, b', H', V', _, d⟩ | ⟨rfl, rfl, b', H', d⟩
    · exact ⟨_, 5, he, hidI (Or.inr (Or.inl ⟨rfl, rfl, by omega, b', H', V', d.i, by rw [d.tr.pages]; exact h.pg, by have := d.ph; omega⟩))⟩
    · exact ⟨_, 0, he, hidI (Or.inr (Or.inr ⟨rfl, k, rfl, ho, hk, hl.2.1, b', H', d.le (by omega)⟩))⟩
/-- The law's byte is put on the page that was taken. -/
theorem OnS.put {w0 w : World} {bp mb kb : Nat} {m : Mst} {U : Pages} {b : Bk} {H : List Ch} {V : Pages} {p s : Int} (h : OnS w0 w bp mb kb m U b H V p s) (hp : p ≤ 250000) {q : Nat} (h2 : 2 ≤ q) (hq : q < 34) (hz : V q = zs 512) {g j : Nat} {x : UInt8} (hb : Blk w g ((zs 512).set j x)) (hgo : g ∉ b.dp :: b.x.own) :
    Calls Tryz.prog 31 #[.pointer (some ⟨bp, 0, none⟩), .int .i64 (q : Int), .slice (some ⟨g, 0, none⟩) 512 512] w fun e w' => ∃ r : Int, e = .returned (.int .i64 r) ∧ (r = 0 ∨ r = 5) ∧ Hid (∃ b' H' V', OnS w0 w' bp mb kb m U b' H' V' (p + 97) s ∧ ∀ k, k < 34 → MkB V' k = MkB V k) := by
  have hph := h.ph
  refine (in_put (c := 97) h.i (page := q) (by rw [h.pg]; exact hq) (by rw [List.length_set, zs_length]) (Nat.le_refl _) hb.bytes hgo (by omega) (fun S hS => by
    rw [hz] at hS
    exact cost_set hS)).mono ?_
  rintro e w' ⟨r, he, P⟩
  have hn : ∀ k, k < 34 → MkB (setPg V q ((zs 512).set j x)) k = MkB V k := fun k hk => MkB_congr (by unfold setPg; rw [if_neg (by omega)])
  rcases P.out with ⟨rfl, _, b', d⟩ | ⟨rfl, b', H', d⟩
  · exact ⟨5, he, Or.inr rfl, hidI ⟨b', H, V, (h.did d h.sp h.ov (fun _ _ => rfl)).le (by omega) (by omega), fun _ _ => rfl⟩⟩
  · have hs : Sp 34 (setPg V q ((zs 512).set j x)) := ⟨by unfold setPg; rw [if_neg (by omega)]; exact h.sp.hd, fun k hk => by rw [hn k (by rw [own34] at hk; omega)]; exact h.sp.own k hk⟩
    have ho : OneV (setPg V q ((zs 512).set j x)) := fun k h3 h4 => by
      unfold setPg
      by_cases e : k = q
      · rw [if_pos e]; exact ⟨j, x, rfl⟩
      · rw [if_neg e]; exact h.ov k h3 h4
    exact ⟨0, he, Or.inl rfl, hidI ⟨b', H', _, h.did d hs ho hn, hn⟩⟩
theorem OnS.free {w0 w : World} {bp mb kb : Nat} {m : Mst} {U : Pages} {b : Bk} {H : List Ch} {V : Pages} {p s : Int} (h : OnS w0 w bp mb kb m U b H V p s) :
    Calls Tryz.prog 61 #[.pointer (some ⟨bp, 0, none⟩)] w fun e w' => ∃ b', e = .returned (.tuple #[.int .i64 (cntF V 34 : Int), .int .i64 0]) ∧ Hid (OnS w0 w' bp mb kb m U b' H V p s) := by
  have h1 := sfree_any h.i.ab h.i.tx.sh (by rw [h.pg]; omega) (by rw [h.pg]; omega) (by rw [h.pg]; exact h.sp.hd)
  rw [h.pg] at h1
  refine h1.mono ?_
  rintro e w' ⟨b', he, R⟩
  exact ⟨b', he, hidI (h.rd R.out)⟩
end Go.Proofs.YtopaeomjndblkaaGreat

namespace Go.Proofs.YtopaeomjndblkaaGreat
open Go.RowKit Go.Maps
open Pg (SpE diffS byteAt)

theorem sizeA64 : (Tryz.prog.info? 138).map (·.size) = some 64 := by kernel_rfl
theorem arM_one (V : Pages) : (arM V).all (·.oneCell') = true := by
  rw [Array.all_eq_true_iff_forall_mem]
  intro x hx
  unfold arM at hx
  simp at hx
  obtain ⟨k, _, rfl⟩ := hx
  rfl
section
variable {ops : Array Oper} {rest : List Oper} {o : Oper} {a : Act} {w : World} {Q : Exit → Act → World → Prop}
theorem wp_loadA (hgd : o.guard = none) (x : Operand) (ho : o.op = .load 138 x) (g : Nat) (hx : a.eval x = .pointer (some ⟨g, 0, none⟩)) (V : Pages) (hg : w.heap[g]? = some (.cells (arM V) 138)) (h : wpList Tryz.prog ops Q rest (a.put o.dst (.agg (arM V))) w) : wpList Tryz.prog ops Q (o :: rest) a w :=
  wpList_load_row hgd 138 x ho g hx 138 _ _ _ hg Tryz.underlying138 rfl (by rw [sizeA64, arM_size]) h
theorem wp_storeA (hgd : o.guard = none) (x y : Operand) (ho : o.op = .store 138 x y) (g : Nat) (V V' : Pages) (hx : a.eval x = .pointer (some ⟨g, 0, none⟩)) (hy : a.eval y = .agg (arM V')) (hg : w.heap[g]? = some (.cells (arM V) 138)) (h : wpList Tryz.prog ops Q rest (a.put o.dst undef) (w.setRow g (arM V'))) : wpList Tryz.prog ops Q (o :: rest) a w :=
  wpList_store_row hgd 138 x y ho g _ hx hy 138 _ hg (by rw [sizeA64, arM_size]) (by rw [arM_size, arM_size]) (arM_one V') h
end
section
variable {w0 w w' : World} {bp mb kb : Nat} {m : Mst} {U : Pages} {b b' : Bk} {H H' : List Ch} {V V' : Pages} {p s : Int}
/-- Abort alone, and the row is put back. -/
theorem OnS.abo (h : OnS w0 w bp mb kb m U b H V p s) (hp : p ≤ 250000) :
    Calls Tryz.prog 33 #[.pointer (some ⟨bp, 0, none⟩)] w fun e w1 => e = .returned (.int .i64 0) ∧ ∃ b1, Hid (w1.heap[mb]? = some (.cells (arM V) 138) ∧ w1.heap[kb]? = some (.cells (arM U) 138) ∧ Fr [mb] w1 (w1.setRow mb (arM U)) ∧ Idl w0 (w1.setRow mb (arM U)) bp [(mb, .cells (arM U) 138), (kb, .cells (arM U) 138)] 72 m b1 U ∧ b1.x.pages = 34 ∧ (b1.x.y.E : Int) ≤ p + 35) := by
  have hph := h.ph
  refine (in_abo h.i (by omega) (by omega)).mono ?_
  rintro e w1 ⟨he, b1, P1⟩
  obtain ⟨I1, N1, E1, _⟩ := P1.out
  have b1m : w1.heap[mb]? = some (.cells (arM V) 138) := (I1.ab.kp _ List.mem_cons_self).1
  have b2k : w1.heap[kb]? = some (.cells (arM U) 138) := (I1.ab.kp _ (List.mem_cons_of_mem _ List.mem_cons_self)).1
  have a1 := I1.ab.bk.away b1m (by decide) (by decide) (by decide) (by decide)
  have f : Fr [mb] w1 (w1.setRow mb (arM U)) := ⟨rfl, rfl, rfl, by simp, fun i _ hn => setRow_other w1 mb i _ (fun e => hn (by simp [e]))⟩
  have A1 : Ab w0 w1 bp b1 [(kb, .cells (arM U) 138)] := I1.ab.less (fun p hp => List.mem_cons_of_mem _ hp)
  have A2 := A1.put f a1.1 a1.2.1 a1.2.2 h.hm (fun p hp => by have e : p = (kb, .cells (arM U) 138) := by simpa using hp
                                                              rw [e]; exact h.ne.symm)
  have A3 := A2.add (setRow_heap w1 mb _ _ _ _ b1m) a1.2.1
  exact ⟨he, b1, hidI ⟨b1m, b2k, f, I1.on A3, by rw [N1.pages]; exact h.pg, by omega⟩⟩
/-- The next transaction. -/
theorem beg_once (h : OnS w0 w bp mb kb m U b H V p s) (hs : s ≤ 10000) (hsp : Sp 34 V') (hov : OneV V') {b1 : Bk} {q : Int} (I : Idl w0 w' bp [(mb, .cells (arM V') 138), (kb, .cells (arM V') 138)] 72 m b1 V') (pg : b1.x.pages = 34) (hE : (b1.x.y.E : Int) ≤ q) :
    Calls Tryz.prog 30 #[.pointer (some ⟨bp, 0, none⟩)] w' fun e w2 => e = .returned (.int .i64 0) ∧ ∃ m2 b2, Hid (OnS w0 w2 bp mb kb m2 V' b2 [] V' q (s + 1)) := by
  have hsq := h.sq
  refine (idl_beg I (by omega)).mono ?_
  rintro e w2 ⟨he2, b2, m2, P2⟩
  obtain ⟨I2, N2, p2, _, _⟩ := P2.out
  have hs2 := N2.s1
  exact ⟨he2, m2, b2, hidI ⟨I2, by rw [N2.pages]; exact pg, hsp, hsp, hov, hov, h.ne, h.hm, h.hk, by rw [p2]; omega, by omega⟩⟩
set_option maxHeartbeats 1000000 in
set_option maxRecDepth 100000 in
theorem same_ownS (w : World) (a1 a2 : Option Addr) (l1 l2 : List UInt8) (n c1 c2 : Nat) (h1 : BytesAt w a1 l1) (h2 : BytesAt w a2 l2) (n1 : l1.length = n) (n2 : l2.length = n) (hn : n ≤ 1000000) :
    Calls Tryz.prog 29 #[.slice a1 n c1, .slice a2 n c2] w fun e w' => e = .returned (.bool (l1 == l2)) ∧ Fr [] w w' := by
  have N1 : Hid (l1.length = n) := n1
  have N2 : Hid (l2.length = n) := n2
  clear n1 n2
  go_enter Tryz.func29, Tryz.ntmps29
  go_wp2
  go_loopw [5] (fun i wr => ∃ j : Nat, j ≤ n ∧ i = .int .i64 j ∧ l1.take j = l2.take j ∧ Fr [] w wr) (fun i _ => n - (intOf i).toNat)
  case atStart => exact ⟨0, by omega, rfl, by simp, Fr.refl _ _⟩
  case round =>
    obtain ⟨j, hj, rfl, ht, fr⟩ := hrel
    have HT : Hid (l1.take j = l2.take j) := ht
    clear ht
    by_cases hlt : j < n
    · have hlt' : (j : Int) < (n : Int) := by omega
      have hj0 : (0 : Int) ≤ (j : Int) := by omega
      have g1 : j < l1.length := by rw [N1.out]; exact hlt
      have g2 : j < l2.length := by rw [N2.out]; exact hlt
      obtain ⟨b1, o1, e1, q1⟩ := (h1.kept fr (by simp)) j (.int .u8 l1[j].toNat) (by simp [arr, g1])
      obtain ⟨b2, o2, e2, q2⟩ := (h2.kept fr (by simp)) j (.int .u8 l2[j].toNat) (by simp [arr, g2])
      subst e1 e2
      by_cases heq : l1[j] = l2[j]
      · have HQ : Hid (l1[j] = l2[j]) := heq
        have hbe : ((l1[j].toNat : Int) == (l2[j].toNat : Int)) = true := by rw [heq]; simp
        clear heq
        generalize hx1 : (l1[j].toNat : Int) = x1 at q1 hbe
        generalize hx2 : (l2[j].toNat : Int) = x2 at q2 hbe
        clear hx1 hx2
        go_wp2
        go_region_held3 (fun w' => w'.cell? ⟨b1, o1 + j, none⟩ = some (.int .u8 x1) ∧ w'.cell? ⟨b2, o2 + j, none⟩ = some (.int .u8 x2)) (go_keep) (fail)
        go_wp2
        refine ⟨⟨j + 1, by omega, by go_num, ?_, fr.drew⟩, by simp [intOf]; omega⟩
        rw [List.take_succ_eq_append_getElem g1, List.take_succ_eq_append_getElem g2, HT.out, HQ.out]
      · have hbe : ((l1[j].toNat : Int) == (l2[j].toNat : Int)) = false := by
          rw [beq_eq_false_iff_ne]
          intro e
          exact heq (UInt8.toNat_inj.1 (by omega))
        have HN : Hid ((l1 == l2) = false) := by
          show (l1 == l2) = false
          rw [beq_eq_false_iff_ne]
          intro e
          exact heq (by subst e; rfl)
        clear heq
        generalize hx1 : (l1[j].toNat : Int) = x1 at q1 hbe
        generalize hx2 : (l2[j].toNat : Int) = x2 at q2 hbe
        clear hx1 hx2
        go_wp2
        go_region_held3 (fun w' => w'.cell? ⟨b1, o1 + j, none⟩ = some (.int .u8 x1) ∧ w'.cell? ⟨b2, o2 + j, none⟩ = some (.int .u8 x2)) (go_keep) (fail)
        go_wp2
        go_ret
        exact ⟨by rw [HN.out]; rfl, fr.drew⟩
    · obtain rfl : j = n := by omega
      have HN : Hid ((l1 == l2) = true) := by
        show (l1 == l2) = true
        rw [beq_iff_eq]
        have := HT.out
        rw [List.take_of_length_le (by rw [N1.out]; omega), List.take_of_length_le (by rw [N2.out]; omega)] at this
        exact this
      go_wp2
      go_ret
      exact ⟨by rw [HN.out]; rfl, fr⟩
theorem same_zs {w : World} {g g2 : Nat} (h1 : Blk w g (zs 512)) (h2 : Blk w g2 (zs 512)) : Calls Tryz.prog 29 #[.slice (some ⟨g, 0, none⟩) 512 512, .slice (some ⟨g2, 0, none⟩) 512 512] w fun e w' => e = .returned (.bool true) ∧ Fr [] w w' := by
  have h9 := same_ownS w (some ⟨g, 0, none⟩) (some ⟨g2, 0, none⟩) (zs 512) (zs 512) 512 512 512 h1.bytes h2.bytes (zs_length 512) (zs_length 512) (by omega)
  refine h9.mono ?_
  rintro e w' ⟨h1, h2⟩
  exact ⟨by simpa using h1, h2⟩
theorem run_make512 (w : World) : ∃ w' g, (Instr.makeSlice 37 (.int .i64 512) (.int .i64 512)).run Tryz.prog w = .ok (.slice (some ⟨g, 0, none⟩) 512 512) w' ∧ w.heap.size ≤ g ∧ Blk w' g (zs 512) ∧ Fr [] w w' := by
  obtain ⟨i, hi, hz, hs, hb⟩ := info5'
  have hrun := run_makeSlice (P := Tryz.prog) w 37 5 i (.int .u8 0) Tryz.underlying37 hi hz .i64 .i64 (512 : Int) (512 : Int) (by omega) (by omega) (by rw [hs]; decide) (by rw [hb]; decide) (by omega)
  have e1 : (512 : Int).toNat * 1 = 512 := rfl
  rw [hs, e1, arr_zeros] at hrun
  exact ⟨_, _, hrun, Nat.le_refl _, heap_alloc_new w _, (Fr.refl _ _).alloc _⟩
theorem OnS.blk (h : OnS w0 w bp mb kb m U b H V p s) {g : Nat} {l : List UInt8} (hb : Blk w g l) (f : Fr [g] w w') (ho : g ∉ b.dp :: b.x.own) (hg : w0.heap.size ≤ g) : OnS w0 w' bp mb kb m U b H V p s := by
  have hb' : w.heap[g]? = some (.cells (arr l) 5) := hb
  refine { h with i := h.i.on (h.i.ab.blk hb f ho hg (fun p hp e => ?_)) }
  have h1 := (h.i.ab.kp p hp).1
  rw [e, hb'] at h1
  simp at hp
  rcases hp with rfl | rfl <;> simp at h1
/-- The page that was taken, read: a block of noughts. -/
theorem once_page (h : OnS w0 w bp mb kb m U b H V p s) {k : Nat} (h2 : 2 ≤ k) (hk : k < 34) {c : Int} (d : Did w0 w' bp [(mb, .cells (arM V) 138), (kb, .cells (arM U) 138)] 72 m U b H (takeV V k) c b' H') :
    Calls Tryz.prog 28 #[.pointer (some ⟨bp, 0, none⟩), .int .i64 (k : Int)] w' fun e w2 => ∃ g, e = .returned (.tuple #[.slice (some ⟨g, 0, none⟩) 512 512, .int .i64 0]) ∧ ∃ b2, Hid (Blk w2 g (zs 512) ∧ w2.heap[mb]? = some (.cells (arM V) 138) ∧ g ≠ mb ∧ w0.heap.size ≤ g ∧ g ∉ b2.dp :: b2.x.own ∧ ∀ w3, Fr [] w2 w3 → OnS w0 (w3.setCell ⟨mb, k, none⟩ (.bool true)) bp mb kb m U b2 H' (takeV V k) (p + c) s) := by
  have hpg : b'.x.pages = 34 := by rw [d.tr.pages]; exact h.pg
  have hl : (V (1 + k / 4096)).length = 512 := h.i.len (by rw [h.pg]; omega)
  refine (rd_page d.i.ab d.i.tx.sh (page := k) (by omega)).mono ?_
  rintro e w2 ⟨g, b2, he, P⟩
  obtain ⟨r, bl, out, new⟩ := P.out
  rw [takeV_self hk (by rw [own34]; exact h2)] at bl
  have hf := d.i.ab.fresh new
  have b1 : w2.heap[mb]? = some (.cells (arM V) 138) := (r.ab.kp _ List.mem_cons_self).1
  refine ⟨g, he, b2, hidI ⟨bl, b1, fun e => hf.2.2 (mb, .cells (arM V) 138) List.mem_cons_self e.symm, hf.1, out, fun w3 f3 => ?_⟩⟩
  have d3 := (d.rd r).quiet f3
  exact h.turn d3 (h.sp.take hk (by rw [own34]; exact h2) hl) (take_one h.ov h2 hk) h2 hk (fun j hj => by
    rw [takeV_bit hk (by rw [own34]; exact h2) hj hl]
    by_cases e : j = k
    · rw [if_pos e, decide_eq_true e, Bool.or_true]
    · rw [if_neg e, decide_eq_false e, Bool.or_false])
end
end Go.Proofs.YtopaeomjndblkaaGreat

