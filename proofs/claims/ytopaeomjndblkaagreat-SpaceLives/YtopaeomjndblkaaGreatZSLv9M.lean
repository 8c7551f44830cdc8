/-
  SpaceLives: like.
-/
import Derived.Test.YtopaeomjndblkaaGreatY49Z
import Derived.Test.YtopaeomjndblkaaGreatY50Z
import Derived.Deep.LoopGhost
import Derived.Deep.CutRange
import Derived.BigQuiet
namespace Go.Proofs.YtopaeomjndblkaaGreat
open Go.RowKit Go.Maps

section
variable {w0 w : World} {bp : Nat} {b : Bk} {K : List (Nat × Obj)} (h : Ab w0 w bp b K)
include h
theorem sfree_not {V : Pages} (hv : Shows b.x V) (hp : 3 ≤ b.x.pages) (hp2 : b.x.pages ≤ 65536) (hd : ¬ IsHd b.x.pages (V 0)) :
    Calls Tryz.prog 61 #[.pointer (some ⟨bp, 0, none⟩)] w fun e w' => ∃ b', e = .returned (.tuple #[.int .i64 0, .int .i64 4]) ∧ Hid (Rd w0 w' bp K b b') := by
  have HX := rd_headNo h hv (by omega) (by omega) hd
  clear h hv
  go_enter Tryz.func61, Tryz.ntmps61
  go_wp2_with (go_at_call 151; refine HX.mono ?_; rintro e w1 ⟨b1, rfl, P⟩)
  go_ret2
  exact ⟨b1, rfl, P⟩
theorem stake_not {V : Pages} (hv : Shows b.x V) (hp : 3 ≤ b.x.pages) (hp2 : b.x.pages ≤ 65536) (hs : b.t.st = 1) (hd : ¬ IsHd b.x.pages (V 0)) :
    Calls Tryz.prog 62 #[.pointer (some ⟨bp, 0, none⟩)] w fun e w' => ∃ b', e = .returned (.tuple #[.int .i64 0, .int .i64 4]) ∧ Hid (Rd w0 w' bp K b b') := by
  have WX := swithin_in h (by omega) hs
  have HX := rd_headNo h hv (by omega) (by omega) hd
  clear h hv
  go_enter Tryz.func62, Tryz.ntmps62
  go_wp2_with (first
    | (go_at_call 154; refine WX.mono ?_; rintro e wz ⟨rfl, hz⟩; rw [hz]; clear hz)
    | (go_at_call 151; refine HX.mono ?_; rintro e w1 ⟨b1, rfl, P⟩))
  go_ret2
  exact ⟨b1, rfl, P⟩
theorem sgive_not {V : Pages} (hv : Shows b.x V) (hp : 3 ≤ b.x.pages) (hp2 : b.x.pages ≤ 65536) (hs : b.t.st = 1) (hd : ¬ IsHd b.x.pages (V 0)) (k : Int) :
    Calls Tryz.prog 63 #[.pointer (some ⟨bp, 0, none⟩), .int .i64 k] w fun e w' => ∃ b', e = .returned (.int .i64 4) ∧ Hid (Rd w0 w' bp K b b') := by
  have WX := swithin_in h (by omega) hs
  have HX := rd_takenNo h hv (by omega) (by omega) hd k
  clear h hv
  go_enter Tryz.func63, Tryz.ntmps63
  go_wp2_with (first
    | (go_at_call 154; refine WX.mono ?_; rintro e wz ⟨rfl, hz⟩; rw [hz]; clear hz)
    | (go_at_call 147; refine HX.mono ?_; rintro e w1 ⟨b1, rfl, P⟩))
  go_ret
  exact ⟨b1, rfl, P⟩
theorem ssetRoot_not {V : Pages} (hv : Shows b.x V) (hp : 3 ≤ b.x.pages) (hp2 : b.x.pages ≤ 65536) (hs : b.t.st = 1) (hd : ¬ IsHd b.x.pages (V 0)) (k n : Nat) (hk : k < 8) (hn : n < b.x.pages) :
    Calls Tryz.prog 64 #[.pointer (some ⟨bp, 0, none⟩), .int .i64 (k : Int), .int .i64 (n : Int)] w fun e w' => ∃ b', e = .returned (.int .i64 4) ∧ Hid (Rd w0 w' bp K b b') := by
  have WX := swithin_in h (by omega) hs
  have HQ := ab_pages h
  have HX := rd_headNo h hv (by omega) (by omega) hd
  have k0 : (0 : Int) ≤ (k : Int) := by omega
  have k1 : (k : Int) < 8 := by omega
  have n0 : (0 : Int) ≤ (n : Int) := by omega
  have n1 : (n : Int) < (b.x.pages : Int) := by omega
  clear h hv
  go_enter Tryz.func64, Tryz.ntmps64
  go_wp2_with (first
    | (go_at_call 154; refine WX.mono ?_; rintro e wz ⟨rfl, hz⟩; rw [hz]; clear hz)
    | (go_at_call 24; refine HQ.mono ?_; rintro e wz ⟨rfl, hz⟩; rw [hz]; clear hz)
    | (go_at_call 151; refine HX.mono ?_; rintro e w1 ⟨b1, rfl, P⟩))
  go_ret
  exact ⟨b1, rfl, P⟩
theorem sformat_out (hp : 0 < b.x.pages) (hs : b.t.st = 0) : Calls Tryz.prog 67 #[.pointer (some ⟨bp, 0, none⟩)] w fun e w' => e = .returned (.int .i64 7) ∧ w' = w := by
  have WX := swithin_out h hp hs
  clear h
  go_enter Tryz.func67, Tryz.ntmps67
  go_wp2_with (go_at_call 154; refine WX.mono ?_; rintro e wz ⟨rfl, hz⟩; rw [hz]; clear hz)
  go_ret
  exact ⟨rfl, rfl⟩
end
theorem zs_notHd (n : Nat) : ¬ IsHd n (zs 512) := fun h => by
  have h1 := h.byte (i := 0) (by omega) (Or.inl (by omega))
  rw [zs_byte] at h1
  unfold hd0 at h1
  rw [putAt_far (by simp [zs_length]) (Or.inl (by omega))] at h1
  exact absurd h1 (by decide)
end Go.Proofs.YtopaeomjndblkaaGreat

namespace Go.Proofs.YtopaeomjndblkaaGreat
open Go.RowKit Go.Maps
open Pg (SpE diffS byteAt)

/-- The law's eight roots. -/
def r8 (r : Nat → Nat) : Array Value := ((List.range 8).map fun k => Value.int .i64 (r k : Int)).toArray
theorem r8_cell {w : World} {rb : Nat} {r : Nat → Nat} (h : w.heap[rb]? = some (.cells (r8 r) 121)) {j : Nat} (hj : j < 8) : w.cell? ⟨rb, j, none⟩ = some (.int .i64 (r j : Int)) := by
  rw [cell_of_row w rb j _ _ _ h]
  simp [r8, hj]
def upd (r : Nat → Nat) (k v : Nat) : Nat → Nat := fun j => if j = k then v else r j
theorem r8_set {w : World} {rb : Nat} {r : Nat → Nat} (h : w.heap[rb]? = some (.cells (r8 r) 121)) {k : Nat} (v : Nat) (hk : k < 8) : (w.setCell ⟨rb, k, none⟩ (.int .i64 (v : Int))).heap[rb]? = some (.cells (r8 (upd r k v)) 121) := by
  have h1 := heap_setCell_same w rb k _ _ (.int .i64 (v : Int)) h
  rw [h1]
  congr 2
  have : k = 0 ∨ k = 1 ∨ k = 2 ∨ k = 3 ∨ k = 4 ∨ k = 5 ∨ k = 6 ∨ k = 7 := by omega
  rcases this with e | e | e | e | e | e | e | e <;> subst e <;> rfl
theorem r8_zero : (#[.int .i64 0, .int .i64 0, .int .i64 0, .int .i64 0, .int .i64 0, .int .i64 0, .int .i64 0, .int .i64 0] : Array Value) = r8 (fun _ => 0) := rfl
/-- The law between two of its steps. -/
structure RtS (w0 w : World) (bp rb : Nat) (m : Mst) (U : Pages) (b : Bk) (H : List Ch) (V : Pages) (r : Nat → Nat) (p s : Int) : Prop where
  i : In w0 w bp [(rb, .cells (r8 r) 121)] 72 m U b H V
  pg : b.x.pages = 34
  sp : ∃ tk, Spz 34 V tk
  rt : ∀ k, k < 8 → numAt (V 0) (8 + 4 * k) = r k
  hr : w0.heap.size ≤ rb
  ph : phN b H ≤ p
  sq : m.seq ≤ s
theorem RtS.box {w0 w : World} {bp rb : Nat} {m : Mst} {U : Pages} {b : Bk} {H : List Ch} {V : Pages} {r : Nat → Nat} {p s : Int} (h : RtS w0 w bp rb m U b H V r p s) : w.heap[rb]? = some (.cells (r8 r) 121) := (h.i.ab.kp _ List.mem_cons_self).1
theorem RtS.quiet {w0 w w' : World} {bp rb : Nat} {m : Mst} {U : Pages} {b : Bk} {H : List Ch} {V : Pages} {r : Nat → Nat} {p s : Int} (h : RtS w0 w bp rb m U b H V r p s) (f : Fr [] w w') : RtS w0 w' bp rb m U b H V r p s := ⟨h.i.quiet f, h.pg, h.sp, h.rt, h.hr, h.ph, h.sq⟩
theorem RtS.le {w0 w : World} {bp rb : Nat} {m : Mst} {U : Pages} {b : Bk} {H : List Ch} {V : Pages} {r : Nat → Nat} {p s p' s' : Int} (h : RtS w0 w bp rb m U b H V r p s) (hp : p ≤ p') (hs : s ≤ s') : RtS w0 w bp rb m U b H V r p' s' := ⟨h.i, h.pg, h.sp, h.rt, h.hr, by have := h.ph; omega, by have := h.sq; omega⟩
/-- The root is set, in the book and in the law's row. -/
theorem RtS.root {w0 w w1 : World} {bp rb : Nat} {m : Mst} {U : Pages} {b b1 : Bk} {H H1 : List Ch} {V : Pages} {r : Nat → Nat} {p s : Int} (h : RtS w0 w bp rb m U b H V r p s) {k v : Nat} (hk : k < 8) (hv : v < 34) (d : Did w0 w1 bp [(rb, .cells (r8 r) 121)] 72 m U b H (setPg V 0 (putAt (V 0) (8 + 4 * k) v)) 132 b1 H1) : RtS w0 (w1.setCell ⟨rb, k, none⟩ (.int .i64 (v : Int))) bp rb m U b1 H1 (rootV V k v) (upd r k v) (p + 132) s := by
  have hb1 : w1.heap[rb]? = some (.cells (r8 r) 121) := (d.i.ab.kp _ List.mem_cons_self).1
  have f := fr_set w1 rb k (.int .i64 (v : Int))
  have aw := d.i.ab.bk.away hb1 (by decide) (by decide) (by decide) (by decide)
  have A1 : Ab w0 w1 bp b1 [] := d.i.ab.less (fun p hp => nomatch hp)
  have A2 := A1.put f aw.1 aw.2.1 aw.2.2 h.hr (fun p hp => nomatch hp)
  have A3 := A2.add (r8_set hb1 v hk) aw.2.1
  have hl : (V 0).length = 512 := h.i.len (by rw [h.pg]; omega)
  obtain ⟨tk, hsp⟩ := h.sp
  refine ⟨d.i.on A3, by rw [d.tr.pages]; exact h.pg, ⟨tk, hsp.root hl hk hv (by omega)⟩, fun j hj => ?_, h.hr, ?_, h.sq⟩
  · rw [rootV_root hl hk hj (by omega), h.rt j hj]
    rfl
  · have h1 := d.ph
    have h2 := h.ph
    omega
/-- A Take, however it ends. -/
theorem RtS.take {w0 w : World} {bp rb : Nat} {m : Mst} {U : Pages} {b : Bk} {H : List Ch} {V : Pages} {r : Nat → Nat} {p s : Int} (h : RtS w0 w bp rb m U b H V r p s) (hp : p ≤ 300000) :
    Calls Tryz.prog 62 #[.pointer (some ⟨bp, 0, none⟩)] w fun e w' => ∃ q f : Int, e = .returned (.tuple #[.int .i64 q, .int .i64 f]) ∧ (f = 0 ∨ f = 5) ∧ ∃ b' H' V', Hid (RtS w0 w' bp rb m U b' H' V' r (p + 97) s) := by
  obtain ⟨tk, hsp⟩ := h.sp
  have hph := h.ph
  rcases low_or V 34 with hn | ⟨q, hl⟩
  · refine (stake_none h.i (by rw [h.pg]; exact hsp.sp) (by rw [h.pg]; exact hn)).mono ?_
    rintro e w' ⟨he, b', D⟩
    have d := D.out
    exact ⟨0, 5, he, Or.inr rfl, b', H, V, hidI ⟨d.i, by rw [d.tr.pages]; exact h.pg, h.sp, h.rt, h.hr, by have := d.ph; omega, h.sq⟩⟩
  · have ho := hsp.sp.free hl.2.1
    have hz := hsp.z q ho hl.1
    refine (stake_low h.i (by rw [h.pg]; exact hsp.sp) (p := q) (by rw [h.pg]; exact hl) 0 (fun S hS => cost_zs hz hS) (by omega)).mono ?_
    rintro e w' ⟨x, f, he, P⟩
    rcases P.out with ⟨rfl, rfl, _, b', H', V', hV, d⟩ | ⟨rfl, rfl, b', H', d⟩
    · have hV' : V' = V := by
        rcases hV with e | e
        · exact e
        · rw [e]; exact setPg_self hz
      subst hV'
      exact ⟨_, 5, he, Or.inr rfl, b', H', V', hidI ⟨d.i, by rw [d.tr.pages]; exact h.pg, h.sp, h.rt, h.hr, by have := d.ph; omega, h.sq⟩⟩
    · have hg := own_gt hl.1
      have h34 := h.pg
      have hq := hl.1
      refine ⟨_, 0, he, Or.inl rfl, b', H', _, hidI ⟨d.i, by rw [d.tr.pages]; exact h.pg, ⟨_, hsp.take hl.1 ho (h.i.len (by omega))⟩, fun k hk => ?_, h.hr, by have := d.ph; omega, h.sq⟩⟩
      rw [takeV_own hl.1 ho (by omega) (by omega)]
      exact h.rt k hk
theorem RtS.turn {w0 w : World} {bp rb : Nat} {m : Mst} {U : Pages} {b : Bk} {H : List Ch} {V : Pages} {r : Nat → Nat} {p s : Int} (h : RtS w0 w bp rb m U b H V r p s) (hp : p ≤ 300000) (hs : s ≤ 10000) :
    Calls Tryz.prog 32 #[.pointer (some ⟨bp, 0, none⟩)] w fun e w1 => e = .returned (.int .i64 0) ∧ Hid (Calls Tryz.prog 30 #[.pointer (some ⟨bp, 0, none⟩)] w1 fun e w' => e = .returned (.int .i64 0) ∧ ∃ m' U' b' H', Hid (RtS w0 w' bp rb m' U' b' H' V r (p + 35) (s + 1))) := by
  have hph := h.ph
  have hE := h.i.E
  have hsq := h.sq
  refine (in_com h.i (by omega)).mono ?_
  rintro e w1 ⟨he, b1, P1⟩
  refine ⟨he, hidI ?_⟩
  obtain ⟨I1, N1, E1, A1⟩ := P1.out
  refine (idl_beg I1 (by omega)).mono ?_
  rintro e w2 ⟨he2, b2, m2, P2⟩
  obtain ⟨I2, N2, p2, _, _⟩ := P2.out
  have hs2 := N2.s1
  exact ⟨he2, m2, V, b2, [], hidI ⟨I2, by rw [N2.pages, N1.pages]; exact h.pg, h.sp, h.rt, h.hr, by rw [p2, E1]; omega, by omega⟩⟩
set_option maxHeartbeats 8000000 in
set_option maxRecDepth 100000 in
theorem spaceRoots_law (w : World) (ad : Option Addr) (nL cL : Nat) (L : List SDo) (hnL : L.length = nL) (hsL : nL ≤ cL ∧ cL < 9223372036854775808) (hD : SDosAt w ad L) :
    Calls Tryz.prog 14 #[.slice ad nL cL] w fun e w' => e = .returned (.bool true) ∧ Fr [] w w' := by
  have HD := hidI hD
  have HL := hidI hnL
  clear hD hnL
  go_enter Tryz.func14, Tryz.ntmps14
  go_upto_if 18 with (go_at_call 58; refine (sawake_ok w).mono ?_; rintro e w1 ⟨rfl, f1⟩)
  go_cut [0] from 19 (fun s0 wx => ∃ n c, s0 = .slice ad n c ∧ n ≤ 80 ∧ n ≤ nL ∧ wx = w1)
  case first =>
    by_cases hlong : 80 < nL
    · have q0 : (80 : Int) < (nL : Int) := by omega
      obtain ⟨d, hd⟩ : ∃ d, L[0]? = some d := ⟨_, List.getElem?_eq_getElem (by have := HL.out; omega)⟩
      obtain ⟨_, b0, off, rfl, _⟩ := HD.out 0 d hd
      have q1 : (80 : Int) ≤ (cL : Int) := by omega
      clear hd
      go_wp2_with fail
      go_meet
      exact ⟨80, _, rfl, by omega, by omega, rfl⟩
    · have q0 : ¬ (80 : Int) < (nL : Int) := by omega
      go_wp2_with fail
      go_meet
      exact ⟨nL, _, rfl, by omega, by omega, rfl⟩
  case rest =>
    obtain ⟨n, c, rfl, hn8, hnL, rfl⟩ := hcut
    go_wp2_with fail
    refine (formatted_ok wc).mono ?_
    rintro e w2 ⟨bp, rfl, P⟩
    have fa := (Fr.refl [] w2).alloc (.cells #[.int .i64 0, .int .i64 0, .int .i64 0, .int .i64 0, .int .i64 0, .int .i64 0, .int .i64 0, .int .i64 0] 121)
    have ha := heap_alloc_new w2 (.cells #[.int .i64 0, .int .i64 0, .int .i64 0, .int .i64 0, .int .i64 0, .int .i64 0, .int .i64 0, .int .i64 0] 121)
    obtain ⟨w3, hw3⟩ : ∃ w3, w2.alloc (.cells #[.int .i64 0, .int .i64 0, .int .i64 0, .int .i64 0, .int .i64 0, .int .i64 0, .int .i64 0, .int .i64 0] 121) = w3 := ⟨_, rfl⟩
    obtain ⟨rb, hrb⟩ : ∃ rb, w2.heap.size = rb := ⟨_, rfl⟩
    rw [hw3] at fa ha
    rw [hrb] at ha
    have S0 : Hid (∃ b m U H V r, RtS w w3 bp rb m U b H V r 1000 4) := hidI (by
      obtain ⟨b, m, H, I, pg, ph, _, sq⟩ := P.out
      have I2 : In w w2 bp [] 72 m Z0 b H (fmtV 34 Z0) := ⟨⟨I.ab.bk, f1.trans I.ab.fr, fun k hk => Nat.le_trans f1.size (I.ab.new k hk), I.ab.ebp, I.ab.kp⟩, I.env, I.tx, I.un⟩
      have I3 := I2.quiet fa
      have hn : rb ∉ b.dp :: b.x.own := (I3.ab.bk.away ha (by decide) (by decide) (by decide) (by decide)).2.1
      exact ⟨b, m, Z0, H, _, fun _ => 0, I3.on (I3.ab.add (by rw [← r8_zero]; exact ha) hn), pg, ⟨_, fmt_spz (fun t _ => Z0_len _) (by omega) (fun p _ _ => rfl)⟩, fun k hk => fmtV_root hk, by have := I2.ab.fr.size; omega, by omega, by omega⟩)
    clear P fa ha
    go_wp2_with fail
    go_loopg [5] n (fun g s5 wx => ∃ i : Nat, i + g = n ∧ s5 = .int .i64 (i : Int) ∧ Hid (∃ b m U H V r, RtS w wx bp rb m U b H V r (1000 + 400 * i) (4 + i)))
    case atStart => exact ⟨0, by omega, rfl, by simpa using S0⟩
    case round =>
      obtain ⟨i, hi, rfl, HR⟩ := hrel
      obtain ⟨b, m, U, H, V, r, HS⟩ : ∃ b m U H V r, Hid (RtS w wr bp rb m U b H V r (1000 + 400 * i) (4 + i)) := by
        obtain ⟨b, m, U, H, V, r, h⟩ := HR.out
        exact ⟨b, m, U, H, V, r, hidI h⟩
      clear HR
      by_cases hlt : i < n
      · have q0 : (i : Int) < (n : Int) := by omega
        obtain ⟨g, rfl⟩ : ∃ g, gk = g + 1 := ⟨gk - 1, by omega⟩
        obtain ⟨d, hd⟩ : ∃ d, L[i]? = some d := ⟨_, List.getElem?_eq_getElem (by have := HL.out; omega)⟩
        obtain ⟨ok, b0, off, rfl, c0, c1, c2⟩ := (HD.out.kept HS.out.i.ab.fr) i d hd
        obtain ⟨kw, kw0, kw1, _⟩ := pick_in wr d.which 8 ok.which (by omega) (by omega)
        obtain ⟨kp, kp0, kp1, _⟩ := pick_in wr d.page 34 ok.page (by omega) (by omega)
        have PW : Hid (∀ w', Calls Tryz.prog 40 #[.int .i64 d.which, .int .i64 8] w' fun e w'' => e = .returned (.int .i64 (kw : Int)) ∧ w'' = w') := hidI (fun w' => by rw [← kw0]; exact Pg.pick_any w' d.which 8 ok.which (by omega) (by omega))
        have PP : Hid (∀ w', Calls Tryz.prog 40 #[.int .i64 d.page, .int .i64 34] w' fun e w'' => e = .returned (.int .i64 (kp : Int)) ∧ w'' = w') := hidI (fun w' => by rw [← kp0]; exact Pg.pick_any w' d.page 34 ok.page (by omega) (by omega))
        have OK := hidI ok
        have HCC : Hid (∀ w', Fr [] w w' → w'.cell? ⟨b0, off + i * 3, none⟩ = some (.int .i64 d.op)) := hidI (fun w' f => by
          obtain ⟨_, b2, o2, e2, q, _⟩ := (HD.out.kept f) i d hd
          cases e2
          exact q)
        clear ok hd
        go_wp2_with fail
        go_quiet ((go_at_call 40; exact Calls.quiet_of_same (Pg.pick_any _ _ _ (by first | exact OK.out.which | exact OK.out.page) (by omega) (by omega))))
        rw [kw0, kp0]
        have fq : Fr [] wr (wr.drewN nq) := (Fr.refl [] wr).drewN nq
        have HS1 := hidI (HS.out.quiet fq)
        generalize wr.drewN nq = w4 at fq HS1 ⊢
        have hbp : (1000 + 400 * (i : Int)) ≤ 40000 := by omega
        have SX := in_setRoot HS1.out.i (by have := HS1.out.ph; omega) (by obtain ⟨tk, h⟩ := HS1.out.sp; rw [HS1.out.pg]; exact h.sp.hd) kw kp (by omega) (by rw [HS1.out.pg]; omega)
        have HKW := hidI (show kw < 8 ∧ kp < 34 by omega)
        clear kw0 kp0 c0 c1 c2 fq
        go_wp2_with fail
        refine SX.mono ?_
        rintro e w5 ⟨f, rfl, P5⟩
        clear SX
        rcases P5.out with ⟨rfl, _, b5, D5⟩ | ⟨rfl, b5, H5, D5⟩
        · have AX := hidI (in_abo D5.i (by have := D5.ph; have := HS1.out.ph; omega) (by omega))
          clear D5
          go_wp2_with fail
          refine AX.out.mono ?_
          rintro e w6 ⟨rfl, b6, P6⟩
          go_wp2_with fail
          go_ret
          exact ⟨rfl, P6.out.1.ab.fr⟩
        · have R6 := hidI (HS1.out.root HKW.out.1 HKW.out.2 D5)
          have hb5 : w5.heap[rb]? = some (.cells (r8 r) 121) := (D5.i.ab.kp _ List.mem_cons_self).1
          have z5 := frozen_of_row w5 rb kw _ _ hb5
          have c5 := r8_cell hb5 HKW.out.1
          have kw8 : (kw : Int) < 8 := by omega
          have f5 : Fr [rb] w5 (w5.setCell ⟨rb, kw, none⟩ (.int .i64 (kp : Int))) := fr_set w5 rb kw _
          clear D5 hb5
          have c6 := HCC.out _ R6.out.i.ab.fr
          go_upto_if 62 with fail
          go_cut [9, 10] from 60 to 109 (fun s9 s10 wx => Hid (∃ b H V, RtS w wx bp rb m U b H V (upd r kw kp) (1000 + 400 * i + 229) (4 + i)))
          case first =>
            have TX := hidI (R6.out.take (by omega))
            clear c5 z5 f5 c6
            by_cases ho : Int.tmod d.op 3 = 0
            · go_wp2_with fail
              refine TX.out.mono ?_
              rintro e w7 ⟨q, f, rfl, hf, b7, H7, V7, R7⟩
              rcases hf with rfl | rfl
              · go_wp2_with fail
                go_meet
                exact hidI ⟨b7, H7, V7, R7.out.le (by omega) (by omega)⟩
              · go_wp2_with fail
                go_meet
                exact hidI ⟨b7, H7, V7, R7.out.le (by omega) (by omega)⟩
            · go_wp2_with fail
              go_meet
              exact hidI ⟨b5, H5, _, R6.out.le (by omega) (by omega)⟩
          case rest =>
            obtain ⟨b7, H7, V7, R7⟩ : ∃ b7 H7 V7, Hid (RtS w wc bp rb m U b7 H7 V7 (upd r kw kp) (1000 + 400 * i + 229) (4 + i)) := by
              obtain ⟨b7, H7, V7, h⟩ := hcut.out
              exact ⟨b7, H7, V7, hidI h⟩
            have c7 := HCC.out _ R7.out.i.ab.fr
            clear c5 z5 f5 c6 R6
            go_upto_region 23 with fail
            go_cut [90] from 74 to 109 (fun s90 wx => s90 = .bool false ∧ Hid (∃ b m U H V, RtS w wx bp rb m U b H V (upd r kw kp) (1000 + 400 * i + 264) (5 + i)))
            case first =>
              have TX := hidI (R7.out.turn (by omega) (by omega))
              by_cases ho : Int.tmod d.op 5 = 0
              · go_wp2_with (first
                  | (go_at_call 32; refine TX.out.mono ?_; rintro e w8 ⟨rfl, T8⟩)
                  | (go_at_call 30; refine T8.out.mono ?_; rintro e w9 ⟨rfl, m9, U9, b9, H9, R9⟩))
                go_meet
                exact ⟨rfl, hidI ⟨b9, m9, U9, H9, V7, R9.out.le (by omega) (by omega)⟩⟩
              · go_wp2_with fail
                go_meet
                exact ⟨rfl, hidI ⟨b7, m, U, H7, V7, R7.out.le (by omega) (by omega)⟩⟩
            case rest =>
              obtain ⟨rfl, hcut⟩ := hcut
              obtain ⟨b9, m9, U9, H9, V9, R9⟩ : ∃ b9 m9 U9 H9 V9, Hid (RtS w wc bp rb m9 U9 b9 H9 V9 (upd r kw kp) (1000 + 400 * i + 264) (5 + i)) := by
                obtain ⟨b9, m9, U9, H9, V9, h⟩ := hcut.out
                exact ⟨b9, m9, U9, H9, V9, hidI h⟩
              obtain ⟨r1, hr1⟩ : ∃ r1, upd r kw kp = r1 := ⟨_, rfl⟩
              rw [hr1] at R9
              clear hcut hr1 R7 c7
              go_wp2_with fail
              go_loopg [11] 8 (fun g2 s11 wx => ∃ k : Nat, k + g2 = 8 ∧ s11 = .int .i64 (k : Int) ∧ Hid (∃ b9, RtS w wx bp rb m9 U9 b9 H9 V9 r1 (1000 + 400 * i + 264) (5 + i)))
              case atStart => exact ⟨0, by omega, rfl, hidI ⟨b9, R9.out⟩⟩
              case round =>
                obtain ⟨k, hk, rfl, HR⟩ := hrel
                clear R9
                obtain ⟨ba, R9⟩ : ∃ ba, Hid (RtS w wr bp rb m9 U9 ba H9 V9 r1 (1000 + 400 * i + 264) (5 + i)) := by
                  obtain ⟨ba, h⟩ := HR.out
                  exact ⟨ba, hidI h⟩
                clear HR
                by_cases hk8 : k < 8
                · have q1 : (k : Int) < 8 := by omega
                  obtain ⟨g2, rfl⟩ : ∃ g2, gk = g2 + 1 := ⟨gk - 1, by omega⟩
                  have RX := rd_root R9.out.i.ab R9.out.i.tx.sh (by rw [R9.out.pg]; omega) (by rw [R9.out.pg]; omega) (by obtain ⟨tk, h⟩ := R9.out.sp; rw [R9.out.pg]; exact h.sp.hd) k hk8
                  rw [R9.out.rt k hk8] at RX
                  go_wp2_with fail
                  refine RX.mono ?_
                  rintro e wa ⟨bb, rfl, RB⟩
                  have RA : Hid (RtS w wa bp rb m9 U9 bb H9 V9 r1 (1000 + 400 * i + 264) (5 + i)) := hidI ⟨R9.out.i.rd RB.out, by rw [RB.out.tr.pages]; exact R9.out.pg, R9.out.sp, R9.out.rt, R9.out.hr, by have h1 := (RB.out.did R9.out.i).ph; have h2 := R9.out.ph; omega, R9.out.sq⟩
                  have ca := r8_cell RA.out.box hk8
                  clear RX RB R9
                  go_wp2_with fail
                  go_roundg g2
                  case measure => omega
                  case rel => exact ⟨k + 1, by omega, by go_num, hidI ⟨bb, RA.out⟩⟩
                · have q1 : ¬ (k : Int) < 8 := by omega
                  go_wp2_with fail
                  go_roundg g
                  case measure => omega
                  case rel => exact ⟨i + 1, by omega, by go_num, hidI ⟨ba, m9, U9, H9, V9, r1, R9.out.le (by omega) (by omega)⟩⟩
      · have q0 : ¬ (i : Int) < (n : Int) := by omega
        go_wp2_with fail
        go_ret
        exact ⟨rfl, HS.out.i.ab.fr⟩
end Go.Proofs.YtopaeomjndblkaaGreat

namespace Go.Proofs.YtopaeomjndblkaaGreat
open Go.RowKit Go.Maps

/-- The document's space: how many pages, is a transaction under way, its row of what is taken (none: of no length), its roots. -/
structure Rf where
  n : Nat
  inT : Bool
  ad : Option Addr
  tl : Nat
  tc : Nat
  tk : Nat → Bool
  r : Nat → Nat
def rv (x : Rf) : Array Value := #[.int .i64 (x.n : Int), .bool x.inT, .slice x.ad x.tl x.tc, .int .i64 (x.r 0 : Int), .int .i64 (x.r 1 : Int), .int .i64 (x.r 2 : Int), .int .i64 (x.r 3 : Int), .int .i64 (x.r 4 : Int), .int .i64 (x.r 5 : Int), .int .i64 (x.r 6 : Int), .int .i64 (x.r 7 : Int)]
/-- Its row. -/
def RfRow (w : World) (x : Rf) : Prop := x.tl = 0 ∨ (x.tl = x.n ∧ ∃ tb cur, x.ad = some ⟨tb, 0, none⟩ ∧ w.heap[tb]? = some (.cells cur 4) ∧ ∀ k, k < x.n → cur[k]? = some (.bool (x.tk k)))
structure RfAt (w : World) (sb : Nat) (x : Rf) : Prop where
  box : w.heap[sb]? = some (.cells (rv x) 123)
  row : RfRow w x
  n1 : x.n ≤ 65536
theorem RfAt.quiet {w w' : World} {sb : Nat} {x : Rf} (h : RfAt w sb x) (f : Fr [] w w') : RfAt w' sb x := by
  refine ⟨f.same (by simp) h.box, ?_, h.n1⟩
  rcases h.row with e | ⟨e, tb, cur, h1, h2, h3⟩
  · exact Or.inl e
  · exact Or.inr ⟨e, tb, cur, h1, f.same (by simp) h2, h3⟩
section
variable {w : World} {sb : Nat} {x : Rf} (h : RfAt w sb x)
include h
theorem RfAt.c0 : w.cell? ⟨sb, 0, none⟩ = some (.int .i64 (x.n : Int)) := cell_of_row w sb 0 _ _ _ h.box
theorem RfAt.c1 : w.cell? ⟨sb, 1, none⟩ = some (.bool x.inT) := cell_of_row w sb 1 _ _ _ h.box
theorem RfAt.c2 : w.cell? ⟨sb, 2, none⟩ = some (.slice x.ad x.tl x.tc) := cell_of_row w sb 2 _ _ _ h.box
theorem RfAt.cr {k : Nat} (hk : k < 8) : w.cell? ⟨sb, 3 + k, none⟩ = some (.int .i64 (x.r k : Int)) := by
  rw [cell_of_row w sb (3 + k) _ _ _ h.box]
  have : k = 0 ∨ k = 1 ∨ k = 2 ∨ k = 3 ∨ k = 4 ∨ k = 5 ∨ k = 6 ∨ k = 7 := by omega
  rcases this with e | e | e | e | e | e | e | e <;> subst e <;> rfl
theorem RfAt.ck {k : Nat} (ht : x.tl ≠ 0) (hk : k < x.n) : x.tl = x.n ∧ ∃ tb, x.ad = some ⟨tb, 0, none⟩ ∧ w.cell? ⟨tb, k, none⟩ = some (.bool (x.tk k)) ∧ w.frozen? ⟨tb, k, none⟩ = false := by
  rcases h.row with e | ⟨e, tb, cur, h1, h2, h3⟩
  · exact (ht e).elim
  · exact ⟨e, tb, h1, by rw [cell_of_row w tb k _ _ _ h2]; exact h3 k hk, frozen_of_row w tb k _ _ h2⟩
end
set_option maxHeartbeats 1000000 in
set_option maxRecDepth 100000 in
theorem rfRoot_arg (w : World) (sb : Nat) (k : Int) (hk : k < 0 ∨ 7 < k) :
    Calls Tryz.prog 149 #[.pointer (some ⟨sb, 0, none⟩), .int .i64 k] w fun e w' => e = .returned (.tuple #[.int .i64 0, .int .i64 2]) ∧ w' = w := by
  rcases hk with hk | hk
  · go_enter Tryz.func149, Tryz.ntmps149
    go_wp2
    go_ret2
    exact ⟨rfl, rfl⟩
  · have q0 : ¬ k < 0 := by omega
    go_enter Tryz.func149, Tryz.ntmps149
    go_wp2
    go_ret2
    exact ⟨rfl, rfl⟩
set_option maxHeartbeats 1000000 in
set_option maxRecDepth 100000 in
theorem rfRoot_not {w : World} {sb : Nat} {x : Rf} (h : RfAt w sb x) (ht : x.tl = 0) (k : Nat) (hk : k < 8) :
    Calls Tryz.prog 149 #[.pointer (some ⟨sb, 0, none⟩), .int .i64 (k : Int)] w fun e w' => e = .returned (.tuple #[.int .i64 0, .int .i64 4]) ∧ w' = w := by
  have c2 := h.c2
  rw [ht] at c2
  have q1 : ¬ (7 : Int) < (k : Int) := by omega
  have d0 : decide ((k : Int) < 0) = false := by simp
  clear h ht
  go_enter Tryz.func149, Tryz.ntmps149
  go_wp2
  go_ret2
  exact ⟨rfl, rfl⟩
set_option maxHeartbeats 1000000 in
set_option maxRecDepth 100000 in
theorem rfRoot_yes {w : World} {sb : Nat} {x : Rf} (h : RfAt w sb x) (ht : x.tl ≠ 0) (k : Nat) (hk : k < 8) :
    Calls Tryz.prog 149 #[.pointer (some ⟨sb, 0, none⟩), .int .i64 (k : Int)] w fun e w' => e = .returned (.tuple #[.int .i64 (x.r k : Int), .int .i64 0]) ∧ w' = w := by
  have c2 := h.c2
  have ck := h.cr hk
  obtain ⟨tl, htl⟩ : ∃ tl, x.tl = tl := ⟨_, rfl⟩
  obtain ⟨rk, hrk⟩ : ∃ rk, x.r k = rk := ⟨_, rfl⟩
  rw [htl] at c2 ht
  rw [hrk] at ck ⊢
  have d1 : ((tl : Int) == 0) = false := by rw [beq_eq_false_iff_ne]; omega
  have q1 : ¬ (7 : Int) < (k : Int) := by omega
  have q2 : (k : Int) < 8 := by omega
  have d0 : decide ((k : Int) < 0) = false := by simp
  clear h ht htl hrk
  go_enter Tryz.func149, Tryz.ntmps149
  go_wp2
  go_ret2
  exact ⟨rfl, rfl⟩
set_option maxHeartbeats 1000000 in
set_option maxRecDepth 100000 in
theorem rfTaken_not {w : World} {sb : Nat} {x : Rf} (h : RfAt w sb x) (ht : x.tl = 0) (k : Int) :
    Calls Tryz.prog 148 #[.pointer (some ⟨sb, 0, none⟩), .int .i64 k] w fun e w' => e = .returned (.tuple #[.bool false, .int .i64 4]) ∧ w' = w := by
  have c2 := h.c2
  rw [ht] at c2
  clear h ht
  go_enter Tryz.func148, Tryz.ntmps148
  go_wp2
  go_ret2
  exact ⟨rfl, rfl⟩
set_option maxHeartbeats 1000000 in
set_option maxRecDepth 100000 in
theorem rfTaken_out {w : World} {sb : Nat} {x : Rf} (h : RfAt w sb x) (ht : x.tl ≠ 0) (k : Int) (hk : k < 0 ∨ (x.n : Int) ≤ k) :
    Calls Tryz.prog 148 #[.pointer (some ⟨sb, 0, none⟩), .int .i64 k] w fun e w' => e = .returned (.tuple #[.bool false, .int .i64 0]) ∧ w' = w := by
  have c2 := h.c2
  have c0 := h.c0
  obtain ⟨tl, htl⟩ : ∃ tl, x.tl = tl := ⟨_, rfl⟩
  rw [htl] at c2 ht
  have d1 : ((tl : Int) == 0) = false := by rw [beq_eq_false_iff_ne]; omega
  clear ht htl h
  rcases hk with hk | hk
  · have q0 : ¬ (0 : Int) ≤ k := by omega
    go_enter Tryz.func148, Tryz.ntmps148
    go_wp2
    go_ret2
    exact ⟨rfl, rfl⟩
  · have q0 : (0 : Int) ≤ k := by omega
    have q1 : ¬ k < (x.n : Int) := by omega
    go_enter Tryz.func148, Tryz.ntmps148
    go_wp2
    go_ret2
    exact ⟨rfl, rfl⟩
set_option maxHeartbeats 1000000 in
set_option maxRecDepth 100000 in
theorem rfTaken_in {w : World} {sb : Nat} {x : Rf} (h : RfAt w sb x) (ht : x.tl ≠ 0) (k : Nat) (hk : k < x.n) :
    Calls Tryz.prog 148 #[.pointer (some ⟨sb, 0, none⟩), .int .i64 (k : Int)] w fun e w' => e = .returned (.tuple #[.bool (x.tk k), .int .i64 0]) ∧ w' = w := by
  have c2 := h.c2
  have c0 := h.c0
  obtain ⟨e, tb, ha, ck, _⟩ := h.ck ht hk
  rw [e, ha] at c2
  have d1 : ((x.n : Int) == 0) = false := by rw [beq_eq_false_iff_ne]; omega
  have q0 : (0 : Int) ≤ (k : Int) := by omega
  have q1 : (k : Int) < (x.n : Int) := by omega
  obtain ⟨n, hn⟩ : ∃ n, x.n = n := ⟨_, rfl⟩
  rw [hn] at c2 c0 d1 q1
  clear h ht e ha hk hn
  go_enter Tryz.func148, Tryz.ntmps148
  go_wp2
  go_ret2
  exact ⟨rfl, rfl⟩
end Go.Proofs.YtopaeomjndblkaaGreat

namespace Go.Proofs.YtopaeomjndblkaaGreat
open Go.RowKit Go.Maps

def updK (t : Nat → Bool) (k : Nat) (b : Bool) : Nat → Bool := fun j => if j = k then b else t j
theorem RfAt.setR {w : World} {sb : Nat} {x : Rf} (h : RfAt w sb x) {k v : Nat} (hk : k < 8) : RfAt (w.setCell ⟨sb, 3 + k, none⟩ (.int .i64 (v : Int))) sb { x with r := upd x.r k v } := by
  have h1 := heap_setCell_same w sb (3 + k) _ _ (.int .i64 (v : Int)) h.box
  refine ⟨?_, ?_, h.n1⟩
  · rw [h1]
    congr 2
    have : k = 0 ∨ k = 1 ∨ k = 2 ∨ k = 3 ∨ k = 4 ∨ k = 5 ∨ k = 6 ∨ k = 7 := by omega
    rcases this with e | e | e | e | e | e | e | e <;> subst e <;> rfl
  · rcases h.row with e | ⟨e, tb, cur, h2, h3, h4⟩
    · exact Or.inl e
    · refine Or.inr ⟨e, tb, cur, h2, ?_, h4⟩
      refine (fr_set w sb (3 + k) _).same (fun hm => ?_) h3
      have e2 : tb = sb := by simpa using hm
      rw [e2, h.box] at h3
      simp at h3
theorem RfAt.setK {w : World} {sb tb : Nat} {x : Rf} (h : RfAt w sb x) (ht : x.tl ≠ 0) (ha : x.ad = some ⟨tb, 0, none⟩) {k : Nat} (hk : k < x.n) (b : Bool) : RfAt (w.setCell ⟨tb, k, none⟩ (.bool b)) sb { x with tk := updK x.tk k b } := by
  rcases h.row with e | ⟨e, tb', cur, h2, h3, h4⟩
  · exact (ht e).elim
  · rw [ha] at h2
    cases h2
    have hne : sb ≠ tb := fun e2 => by
      rw [← e2, h.box] at h3
      simp at h3
    have h5 := heap_setCell_same w tb k _ _ (.bool b) h3
    refine ⟨(fr_set w tb k _).same (by simpa using hne) h.box, Or.inr ⟨e, tb, _, ha, h5, fun j hj => ?_⟩, h.n1⟩
    show (cur.setIfInBounds k (.bool b))[j]? = _
    unfold updK
    by_cases e3 : j = k
    · subst e3
      have hs : j < cur.size := (Array.getElem?_eq_some_iff.1 (h4 j hj)).1
      simp [hs]
    · rw [Array.getElem?_setIfInBounds_ne (fun e4 => e3 e4.symm)]
      simp only [e3, if_false]
      exact h4 j hj
set_option maxHeartbeats 1000000 in
set_option maxRecDepth 100000 in
theorem rfSetRoot_out {w : World} {sb : Nat} {x : Rf} (h : RfAt w sb x) (hi : x.inT = false) (k v : Int) :
    Calls Tryz.prog 146 #[.pointer (some ⟨sb, 0, none⟩), .int .i64 k, .int .i64 v] w fun e w' => e = .returned (.int .i64 7) ∧ w' = w := by
  have c1 := h.c1
  rw [hi] at c1
  clear h hi
  go_enter Tryz.func146, Tryz.ntmps146
  go_wp2
  go_ret
  exact ⟨rfl, rfl⟩
set_option maxHeartbeats 2000000 in
set_option maxRecDepth 100000 in
theorem rfSetRoot_arg {w : World} {sb : Nat} {x : Rf} (h : RfAt w sb x) (hi : x.inT = true) (k v : Int) (hk : k < 0 ∨ 7 < k ∨ v < 0 ∨ (x.n : Int) ≤ v) :
    Calls Tryz.prog 146 #[.pointer (some ⟨sb, 0, none⟩), .int .i64 k, .int .i64 v] w fun e w' => e = .returned (.int .i64 2) ∧ w' = w := by
  have c0 := h.c0
  have c1 := h.c1
  rw [hi] at c1
  clear h hi
  by_cases h1 : k < 0
  · go_enter Tryz.func146, Tryz.ntmps146
    go_wp2
    go_ret
    exact ⟨rfl, rfl⟩
  by_cases h2 : 7 < k
  · go_enter Tryz.func146, Tryz.ntmps146
    go_wp2
    go_ret
    exact ⟨rfl, rfl⟩
  by_cases h3 : v < 0
  · go_enter Tryz.func146, Tryz.ntmps146
    go_wp2
    go_ret
    exact ⟨rfl, rfl⟩
  have h4 : (x.n : Int) ≤ v := by omega
  clear hk
  go_enter Tryz.func146, Tryz.ntmps146
  go_wp2
  go_ret
  exact ⟨rfl, rfl⟩
set_option maxHeartbeats 2000000 in
set_option maxRecDepth 100000 in
theorem rfSetRoot_not {w : World} {sb : Nat} {x : Rf} (h : RfAt w sb x) (hi : x.inT = true) (ht : x.tl = 0) (k v : Nat) (hk : k < 8) (hv : v < x.n) :
    Calls Tryz.prog 146 #[.pointer (some ⟨sb, 0, none⟩), .int .i64 (k : Int), .int .i64 (v : Int)] w fun e w' => e = .returned (.int .i64 4) ∧ w' = w := by
  have c0 := h.c0
  have c1 := h.c1
  have c2 := h.c2
  rw [hi] at c1
  rw [ht] at c2
  have q1 : ¬ (7 : Int) < (k : Int) := by omega
  have q2 : ¬ (x.n : Int) ≤ (v : Int) := by omega
  have d0 : decide ((k : Int) < 0) = false := by simp
  have d1 : decide ((v : Int) < 0) = false := by simp
  obtain ⟨n, hn⟩ : ∃ n, x.n = n := ⟨_, rfl⟩
  rw [hn] at c0 q2
  clear h hi ht hk hv hn
  go_enter Tryz.func146, Tryz.ntmps146
  go_wp2
  go_ret
  exact ⟨rfl, rfl⟩
set_option maxHeartbeats 2000000 in
set_option maxRecDepth 100000 in
theorem rfSetRoot_yes {w : World} {sb : Nat} {x : Rf} (h : RfAt w sb x) (hi : x.inT = true) (ht : x.tl ≠ 0) (k v : Nat) (hk : k < 8) (hv : v < x.n) :
    Calls Tryz.prog 146 #[.pointer (some ⟨sb, 0, none⟩), .int .i64 (k : Int), .int .i64 (v : Int)] w fun e w' => e = .returned (.int .i64 0) ∧ RfAt w' sb { x with r := upd x.r k v } ∧ Fr [sb] w w' := by
  have HN := hidI (h.setR (v := v) hk)
  have c0 := h.c0
  have c1 := h.c1
  have c2 := h.c2
  have ck := h.cr hk
  have zk := frozen_of_row w sb (3 + k) _ _ h.box
  rw [hi] at c1
  have q1 : ¬ (7 : Int) < (k : Int) := by omega
  have q2 : ¬ (x.n : Int) ≤ (v : Int) := by omega
  have q8 : (k : Int) < 8 := by omega
  have d0 : decide ((k : Int) < 0) = false := by simp
  have d1 : decide ((v : Int) < 0) = false := by simp
  obtain ⟨n, hn⟩ : ∃ n, x.n = n := ⟨_, rfl⟩
  obtain ⟨tl, htl⟩ : ∃ tl, x.tl = tl := ⟨_, rfl⟩
  rw [hn] at c0 q2
  rw [htl] at c2 ht
  have d2 : ((tl : Int) == 0) = false := by rw [beq_eq_false_iff_ne]; omega
  clear h hi ht hk hv hn htl
  go_enter Tryz.func146, Tryz.ntmps146
  go_wp2
  go_ret
  exact ⟨rfl, HN.out, fr_set w sb (3 + k) _⟩
end Go.Proofs.YtopaeomjndblkaaGreat

namespace Go.Proofs.YtopaeomjndblkaaGreat
open Go.RowKit Go.Maps

theorem rfOwn_any (w : World) (n : Nat) (hn : n ≤ 1000000) : Calls Tryz.prog 216 #[.int .i64 (n : Int)] w fun e w' => e = .returned (.int .i64 (ownN n : Int)) ∧ w' = w := by
  have w1 : IntKind.i64.wrap ((n : Int) + 4095) = (n : Int) + 4095 := wrapI _ (by omega) (by omega)
  have d0 : Int.tdiv ((n : Int) + 4095) 4096 = (((n + 4095) / 4096 : Nat) : Int) := by
    rw [Int.tdiv_eq_ediv_of_nonneg (by omega)]; omega
  have d1 : (n + 4095) / 4096 ≤ 1000000 := by omega
  obtain ⟨q, HQ⟩ : ∃ q, Hid ((n + 4095) / 4096 = q) := ⟨_, hidI rfl⟩
  rw [HQ.out] at d0 d1
  go_enter Tryz.func216, Tryz.ntmps216
  go_wp2
  go_ret
  refine ⟨ret_int ?_, rfl⟩
  have := HQ.out
  unfold ownN
  omega
set_option maxHeartbeats 1000000 in
set_option maxRecDepth 100000 in
theorem rfGive_out {w : World} {sb : Nat} {x : Rf} (h : RfAt w sb x) (hi : x.inT = false) (k : Int) :
    Calls Tryz.prog 145 #[.pointer (some ⟨sb, 0, none⟩), .int .i64 k] w fun e w' => e = .returned (.int .i64 7) ∧ w' = w := by
  have c1 := h.c1
  rw [hi] at c1
  clear h hi
  go_enter Tryz.func145, Tryz.ntmps145
  go_wp2
  go_ret
  exact ⟨rfl, rfl⟩
set_option maxHeartbeats 1000000 in
set_option maxRecDepth 100000 in
theorem rfGive_not {w : World} {sb : Nat} {x : Rf} (h : RfAt w sb x) (hi : x.inT = true) (ht : x.tl = 0) (k : Int) :
    Calls Tryz.prog 145 #[.pointer (some ⟨sb, 0, none⟩), .int .i64 k] w fun e w' => e = .returned (.int .i64 4) ∧ w' = w := by
  have c1 := h.c1
  have c2 := h.c2
  rw [hi] at c1
  rw [ht] at c2
  clear h hi ht
  go_enter Tryz.func145, Tryz.ntmps145
  go_wp2
  go_ret
  exact ⟨rfl, rfl⟩
set_option maxHeartbeats 2000000 in
set_option maxRecDepth 100000 in
theorem rfGive_arg {w : World} {sb : Nat} {x : Rf} (h : RfAt w sb x) (hi : x.inT = true) (ht : x.tl ≠ 0) (k : Int) (hk : k < (ownN x.n : Int) ∨ (x.n : Int) ≤ k ∨ x.tk k.toNat = false) :
    Calls Tryz.prog 145 #[.pointer (some ⟨sb, 0, none⟩), .int .i64 k] w fun e w' => e = .returned (.int .i64 2) ∧ w' = w := by
  have OX := rfOwn_any w x.n (by have := h.n1; omega)
  have c0 := h.c0
  have c1 := h.c1
  have c2 := h.c2
  rw [hi] at c1
  have htl : x.tl = x.n := by
    rcases h.row with e | ⟨e, _⟩
    · exact (ht e).elim
    · exact e
  have hn0 : x.n ≠ 0 := by rw [← htl]; exact ht
  have d2 : ((x.n : Int) == 0) = false := by rw [beq_eq_false_iff_ne]; omega
  rw [htl] at c2
  by_cases h1 : k < (ownN x.n : Int)
  · obtain ⟨n, hn⟩ : ∃ n, x.n = n := ⟨_, rfl⟩
    rw [hn] at c0 c2 d2 OX h1
    clear h hi ht hk htl hn0 hn
    go_enter Tryz.func145, Tryz.ntmps145
    go_wp2_with (go_at_call 216; refine OX.mono ?_; rintro e wz ⟨rfl, hz⟩; rw [hz]; clear hz)
    go_ret
    exact ⟨rfl, rfl⟩
  by_cases h2 : (x.n : Int) ≤ k
  · obtain ⟨n, hn⟩ : ∃ n, x.n = n := ⟨_, rfl⟩
    rw [hn] at c0 c2 d2 OX h1 h2
    clear h hi ht hk htl hn0 hn
    go_enter Tryz.func145, Tryz.ntmps145
    go_wp2_with (go_at_call 216; refine OX.mono ?_; rintro e wz ⟨rfl, hz⟩; rw [hz]; clear hz)
    go_ret
    exact ⟨rfl, rfl⟩
  obtain ⟨q, rfl⟩ : ∃ q : Nat, k = (q : Int) := ⟨k.toNat, by omega⟩
  have hq : q < x.n := by omega
  obtain ⟨_, tb, ha, ck, _⟩ := h.ck ht hq
  have hf : x.tk q = false := by
    rcases hk with h3 | h3 | h3
    · omega
    · omega
    · rwa [show ((q : Int)).toNat = q by omega] at h3
  rw [hf] at ck
  rw [ha] at c2
  have q3 : (q : Int) < (x.n : Int) := by omega
  obtain ⟨n, hn⟩ : ∃ n, x.n = n := ⟨_, rfl⟩
  rw [hn] at c0 c2 d2 OX h1 h2 q3
  clear h hi ht hk htl hn0 hn hq hf ha
  go_enter Tryz.func145, Tryz.ntmps145
  go_wp2_with (go_at_call 216; refine OX.mono ?_; rintro e wz ⟨rfl, hz⟩; rw [hz]; clear hz)
  go_ret
  exact ⟨rfl, rfl⟩
set_option maxHeartbeats 2000000 in
set_option maxRecDepth 100000 in
theorem rfGive_yes {w : World} {sb : Nat} {x : Rf} (h : RfAt w sb x) (hi : x.inT = true) (ht : x.tl ≠ 0) (q : Nat) (ho : ownN x.n ≤ q) (hq : q < x.n) (hf : x.tk q = true) :
    Calls Tryz.prog 145 #[.pointer (some ⟨sb, 0, none⟩), .int .i64 (q : Int)] w fun e w' => e = .returned (.int .i64 0) ∧ RfAt w' sb { x with tk := updK x.tk q false } ∧ ∃ tb, x.ad = some ⟨tb, 0, none⟩ ∧ Fr [tb] w w' := by
  have OX := rfOwn_any w x.n (by have := h.n1; omega)
  have c0 := h.c0
  have c1 := h.c1
  have c2 := h.c2
  rw [hi] at c1
  obtain ⟨htl, tb, ha, ck, zk⟩ := h.ck ht hq
  have HN := hidI (h.setK ht ha hq false)
  have HA := hidI ha
  have hn0 : x.n ≠ 0 := by rw [← htl]; exact ht
  have d2 : ((x.n : Int) == 0) = false := by rw [beq_eq_false_iff_ne]; omega
  rw [hf] at ck
  rw [ha, htl] at c2
  have q1 : ¬ (q : Int) < (ownN x.n : Int) := by omega
  have q2 : ¬ (x.n : Int) ≤ (q : Int) := by omega
  have q3 : (q : Int) < (x.n : Int) := by omega
  obtain ⟨n, hn⟩ : ∃ n, x.n = n := ⟨_, rfl⟩
  rw [hn] at c0 c2 d2 OX q1 q2 q3
  clear h hi ht htl hn0 hn hq hf ha ho
  go_enter Tryz.func145, Tryz.ntmps145
  go_wp2_with (go_at_call 216; refine OX.mono ?_; rintro e wz ⟨rfl, hz⟩; rw [hz]; clear hz)
  go_ret
  exact ⟨rfl, HN.out, tb, HA.out, fr_set w tb q _⟩
theorem rfFree_not {w : World} {sb : Nat} {x : Rf} (h : RfAt w sb x) (ht : x.tl = 0) :
    Calls Tryz.prog 150 #[.pointer (some ⟨sb, 0, none⟩)] w fun e w' => e = .returned (.tuple #[.int .i64 0, .int .i64 4]) ∧ w' = w := by
  have c2 := h.c2
  rw [ht] at c2
  clear h ht
  go_enter Tryz.func150, Tryz.ntmps150
  go_wp2
  go_ret2
  exact ⟨rfl, rfl⟩
/-- How many of n are free, by the document's row. -/
def cntT (t : Nat → Bool) : Nat → Nat
  | 0 => 0
  | n + 1 => cntT t n + if t n then 0 else 1
theorem cntT_le (t : Nat → Bool) (n : Nat) : cntT t n ≤ n := by
  induction n with
  | zero => exact Nat.le_refl _
  | succ n ih => unfold cntT; split <;> omega
theorem cntT_eq {V : Pages} {t : Nat → Bool} : ∀ {n : Nat}, (∀ k, k < n → MkB V k = t k) → cntF V n = cntT t n
  | 0, _ => rfl
  | n + 1, h => by
    unfold cntF cntT
    rw [cntT_eq fun k hk => h k (by omega), h n (by omega)]
set_option maxHeartbeats 2000000 in
set_option maxRecDepth 100000 in
theorem rfFree_yes {w : World} {sb : Nat} {x : Rf} (h : RfAt w sb x) (ht : x.tl ≠ 0) :
    Calls Tryz.prog 150 #[.pointer (some ⟨sb, 0, none⟩)] w fun e w' => e = .returned (.tuple #[.int .i64 (cntT x.tk x.n : Int), .int .i64 0]) ∧ w' = w := by
  have c0 := h.c0
  have c2 := h.c2
  have HK : Hid (∀ k, k < x.n → ∃ tb, x.ad = some ⟨tb, 0, none⟩ ∧ w.cell? ⟨tb, k, none⟩ = some (.bool (x.tk k))) := hidI (fun k hk => by
    obtain ⟨_, tb, ha, ck, _⟩ := h.ck ht hk
    exact ⟨tb, ha, ck⟩)
  have htl : x.tl = x.n := by
    rcases h.row with e | ⟨e, _⟩
    · exact (ht e).elim
    · exact e
  have hn0 : x.n ≠ 0 := by rw [← htl]; exact ht
  have hn1 := h.n1
  have d2 : ((x.n : Int) == 0) = false := by rw [beq_eq_false_iff_ne]; omega
  rw [htl] at c2
  obtain ⟨n, hn⟩ : ∃ n, x.n = n := ⟨_, rfl⟩
  obtain ⟨ad, had⟩ : ∃ ad, x.ad = ad := ⟨_, rfl⟩
  rw [hn] at c0 c2 d2 HK hn1 ⊢
  rw [had] at c2 HK
  clear h ht htl hn0 hn had
  go_enter Tryz.func150, Tryz.ntmps150
  go_wp2
  go_loopw [4, 5] (fun s4 s5 wr => ∃ k : Nat, k ≤ n ∧ s5 = .int .i64 (k : Int) ∧ s4 = .int .i64 (cntT x.tk k : Int) ∧ wr = w) (fun _ s5 _ => n - (intOf s5).toNat)
  case atStart => exact ⟨0, by omega, rfl, rfl, rfl⟩
  case round =>
    obtain ⟨k, hk, rfl, rfl, rfl⟩ := hrel
    have hle := cntT_le x.tk k
    have es : cntT x.tk (k + 1) = cntT x.tk k + if x.tk k then 0 else 1 := rfl
    have ES := hidI es
    clear es
    by_cases hlt : k < n
    · have q0 : (k : Int) < (n : Int) := by omega
      obtain ⟨tb, rfl, ck⟩ := HK.out k hlt
      cases hb : x.tk k with
      | true =>
        rw [hb] at ck ES
        clear hb
        go_wp2
        refine ⟨⟨k + 1, by omega, by go_num, by rw [ES.out]; rfl, trivial⟩, by simp [intOf]; omega⟩
      | false =>
        rw [hb] at ck ES
        clear hb
        go_wp2
        refine ⟨⟨k + 1, by omega, by go_num, by rw [ES.out]; simp, trivial⟩, by simp [intOf]; omega⟩
    · have q0 : ¬ (k : Int) < (n : Int) := by omega
      obtain rfl : k = n := by omega
      go_wp2
      go_ret2
      exact ⟨rfl, rfl⟩
end Go.Proofs.YtopaeomjndblkaaGreat

namespace Go.Proofs.YtopaeomjndblkaaGreat
open Go.RowKit Go.Maps

theorem rfTake_out {w : World} {sb : Nat} {x : Rf} (h : RfAt w sb x) (hi : x.inT = false) :
    Calls Tryz.prog 144 #[.pointer (some ⟨sb, 0, none⟩)] w fun e w' => e = .returned (.tuple #[.int .i64 0, .int .i64 7]) ∧ w' = w := by
  have c1 := h.c1
  rw [hi] at c1
  clear h hi
  go_enter Tryz.func144, Tryz.ntmps144
  go_wp2
  go_ret2
  exact ⟨rfl, rfl⟩
theorem rfTake_not {w : World} {sb : Nat} {x : Rf} (h : RfAt w sb x) (hi : x.inT = true) (ht : x.tl = 0) :
    Calls Tryz.prog 144 #[.pointer (some ⟨sb, 0, none⟩)] w fun e w' => e = .returned (.tuple #[.int .i64 0, .int .i64 4]) ∧ w' = w := by
  have c1 := h.c1
  have c2 := h.c2
  rw [hi] at c1
  rw [ht] at c2
  clear h hi ht
  go_enter Tryz.func144, Tryz.ntmps144
  go_wp2
  go_ret2
  exact ⟨rfl, rfl⟩
/-- p is the document's lowest free page. -/
def LowT (t : Nat → Bool) (n p : Nat) : Prop := p < n ∧ t p = false ∧ ∀ q, q < p → t q = true
set_option maxHeartbeats 4000000 in
set_option maxRecDepth 100000 in
theorem rfTake_any {w : World} {sb : Nat} {x : Rf} (h : RfAt w sb x) (hi : x.inT = true) (ht : x.tl ≠ 0) :
    Calls Tryz.prog 144 #[.pointer (some ⟨sb, 0, none⟩)] w fun e w' => (e = .returned (.tuple #[.int .i64 0, .int .i64 5]) ∧ (∀ q, q < x.n → x.tk q = true) ∧ w' = w) ∨ (∃ p : Nat, e = .returned (.tuple #[.int .i64 (p : Int), .int .i64 0]) ∧ LowT x.tk x.n p ∧ RfAt w' sb { x with tk := updK x.tk p true } ∧ ∃ tb, x.ad = some ⟨tb, 0, none⟩ ∧ Fr [tb] w w') := by
  have c0 := h.c0
  have c1 := h.c1
  have c2 := h.c2
  rw [hi] at c1
  have HK : Hid (∀ k, k < x.n → ∃ tb, x.ad = some ⟨tb, 0, none⟩ ∧ w.cell? ⟨tb, k, none⟩ = some (.bool (x.tk k)) ∧ w.frozen? ⟨tb, k, none⟩ = false ∧ RfAt (w.setCell ⟨tb, k, none⟩ (.bool true)) sb { x with tk := updK x.tk k true }) := hidI (fun k hk => by
    obtain ⟨_, tb, ha, ck, zk⟩ := h.ck ht hk
    exact ⟨tb, ha, ck, zk, h.setK ht ha hk true⟩)
  have htl : x.tl = x.n := by
    rcases h.row with e | ⟨e, _⟩
    · exact (ht e).elim
    · exact e
  have hn0 : x.n ≠ 0 := by rw [← htl]; exact ht
  have hn1 := h.n1
  have d2 : ((x.n : Int) == 0) = false := by rw [beq_eq_false_iff_ne]; omega
  rw [htl] at c2
  obtain ⟨n, hn⟩ : ∃ n, x.n = n := ⟨_, rfl⟩
  obtain ⟨ad, had⟩ : ∃ ad, x.ad = ad := ⟨_, rfl⟩
  have HAD := hidI had
  rw [hn] at c0 c2 d2 HK hn1 ⊢
  rw [had] at c2 HK
  clear h hi ht htl hn0 had
  go_enter Tryz.func144, Tryz.ntmps144
  go_wp2
  go_loopw [4] (fun s4 wr => ∃ k : Nat, k ≤ n ∧ s4 = .int .i64 (k : Int) ∧ Hid (∀ q, q < k → x.tk q = true) ∧ wr = w) (fun s4 _ => n - (intOf s4).toNat)
  case atStart => exact ⟨0, by omega, rfl, hidI (fun q hq => absurd hq (by omega)), rfl⟩
  case round =>
    obtain ⟨k, hk, rfl, HA, rfl⟩ := hrel
    by_cases hlt : k < n
    · have q0 : (k : Int) < (n : Int) := by omega
      obtain ⟨tb, rfl, ck, zk, hset⟩ := HK.out k hlt
      have HS := hidI hset
      clear hset
      cases hb : x.tk k with
      | true =>
        rw [hb] at ck
        have HB := hidI hb
        clear hb
        go_wp2
        refine ⟨⟨k + 1, by omega, by go_num, hidI (fun q hq => ?_), trivial⟩, by simp [intOf]; omega⟩
        by_cases e : q = k
        · rw [e]; exact HB.out
        · exact HA.out q (by omega)
      | false =>
        rw [hb] at ck
        have HB := hidI hb
        clear hb
        go_wp2
        go_ret2
        exact Or.inr ⟨k, rfl, ⟨hlt, HB.out, HA.out⟩, by have h9 := HS.out; rw [← HAD.out] at h9; exact h9, tb, HAD.out, fr_set _ tb k _⟩
    · have q0 : ¬ (k : Int) < (n : Int) := by omega
      obtain rfl : k = n := by omega
      go_wp2
      go_ret2
      exact Or.inl ⟨rfl, HA.out, rfl⟩
theorem rfFormat_out {w : World} {sb : Nat} {x : Rf} (h : RfAt w sb x) (hi : x.inT = false) :
    Calls Tryz.prog 143 #[.pointer (some ⟨sb, 0, none⟩)] w fun e w' => e = .returned (.int .i64 7) ∧ w' = w := by
  have c1 := h.c1
  rw [hi] at c1
  clear h hi
  go_enter Tryz.func143, Tryz.ntmps143
  go_wp2
  go_ret
  exact ⟨rfl, rfl⟩
end Go.Proofs.YtopaeomjndblkaaGreat

namespace Go.Proofs.YtopaeomjndblkaaGreat
open Go.RowKit Go.Maps

theorem RfAt.congrK {w : World} {sb : Nat} {x : Rf} (h : RfAt w sb x) {t : Nat → Bool} (e : ∀ k, k < x.n → t k = x.tk k) : RfAt w sb { x with tk := t } := by
  refine ⟨h.box, ?_, h.n1⟩
  rcases h.row with e1 | ⟨e1, tb, cur, h1, h2, h3⟩
  · exact Or.inl e1
  · exact Or.inr ⟨e1, tb, cur, h1, h2, fun k hk => by show cur[k]? = some (.bool (t k)); rw [h3 k hk, e k hk]⟩
theorem RfAt.congrR {w : World} {sb : Nat} {x : Rf} (h : RfAt w sb x) {t : Nat → Nat} (e : ∀ k, k < 8 → t k = x.r k) : RfAt w sb { x with r := t } := by
  refine ⟨?_, h.row, h.n1⟩
  rw [h.box]
  unfold rv
  show _ = some (Obj.cells #[.int .i64 (x.n : Int), .bool x.inT, .slice x.ad x.tl x.tc, .int .i64 (t 0 : Int), .int .i64 (t 1 : Int), .int .i64 (t 2 : Int), .int .i64 (t 3 : Int), .int .i64 (t 4 : Int), .int .i64 (t 5 : Int), .int .i64 (t 6 : Int), .int .i64 (t 7 : Int)] 123 (0, 0))
  rw [e 0 (by omega), e 1 (by omega), e 2 (by omega), e 3 (by omega), e 4 (by omega), e 5 (by omega), e 6 (by omega), e 7 (by omega)]
theorem info4' : ∃ i, Tryz.prog.info? 4 = some i ∧ i.zero = some (.bool false) ∧ i.size = 1 ∧ i.bytes = 1 := by
  have h : (Tryz.prog.info? 4).map (fun i => (i.zero, i.size, i.bytes)) = some (some (.bool false), 1, 1) := by kernel_rfl
  obtain ⟨i, hi, hx⟩ := Option.map_eq_some_iff.1 h
  simp only [Prod.mk.injEq] at hx
  exact ⟨i, hi, hx.1, hx.2.1, hx.2.2⟩
theorem run_makeB (w : World) (n : Nat) (hn : n ≤ 65536) : ∃ w' cur, (Instr.makeSlice 120 (.int .i64 (n : Int)) (.int .i64 (n : Int))).run Tryz.prog w = .ok (.slice (some ⟨w.heap.size, 0, none⟩) n n) w' ∧ w'.heap[w.heap.size]? = some (.cells cur 4) ∧ (∀ k, k < n → cur[k]? = some (.bool false)) ∧ Fr [] w w' := by
  obtain ⟨i, hi, hz, hs, hb⟩ := info4'
  have hrun := run_makeSlice (P := Tryz.prog) w 120 4 i (.bool false) Tryz.underlying120 hi hz .i64 .i64 (n : Int) (n : Int) (by omega) (by omega) (by rw [hs]; omega) (by rw [hb]; omega) (by omega)
  rw [hs] at hrun
  simp only [Int.toNat_natCast, Nat.mul_one] at hrun
  exact ⟨_, _, hrun, heap_alloc_new w _, fun k hk => by simp [madeCells, Value.cells, hk, Nat.mod_one], (Fr.refl _ _).alloc _⟩
set_option maxHeartbeats 4000000 in
set_option maxRecDepth 100000 in
theorem rfFormat_in {w : World} {sb : Nat} {x : Rf} (h : RfAt w sb x) (hi : x.inT = true) (hn : ownN x.n < x.n) :
    Calls Tryz.prog 143 #[.pointer (some ⟨sb, 0, none⟩)] w fun e w' => e = .returned (.int .i64 0) ∧ ∃ tb, w.heap.size ≤ tb ∧ RfAt w' sb ⟨x.n, true, some ⟨tb, 0, none⟩, x.n, x.n, fun k => decide (k < ownN x.n), fun _ => 0⟩ ∧ Fr [sb] w w' := by
  have OX := rfOwn_any w x.n (by have := h.n1; omega)
  have c0 := h.c0
  have c1 := h.c1
  rw [hi] at c1
  have q1 : ¬ (x.n : Int) ≤ (ownN x.n : Int) := by omega
  have hn1 := h.n1
  obtain ⟨n, hxn⟩ : ∃ n, x.n = n := ⟨_, rfl⟩
  obtain ⟨ow, how⟩ : ∃ ow, ownN n = ow := ⟨_, rfl⟩
  obtain ⟨w1, cur, hmk, hcur, hz, f1⟩ := run_makeB w n (by omega)
  obtain ⟨tb, htb⟩ : ∃ tb, w.heap.size = tb := ⟨_, rfl⟩
  rw [hxn] at c0 OX q1 hn hn1 ⊢
  rw [how] at OX q1 hn ⊢
  rw [htb] at hmk hcur
  have hb1 := f1.same (by simp) h.box
  have z2 := frozen_of_row w1 sb 2 _ _ hb1
  have c2 : w1.cell? ⟨sb, 2, none⟩ = some (.slice x.ad x.tl x.tc) := cell_of_row w1 sb 2 _ _ _ hb1
  have R2 : Hid (RfAt (w1.setCell ⟨sb, 2, none⟩ (.slice (some ⟨tb, 0, none⟩) n n)) sb ⟨n, true, some ⟨tb, 0, none⟩, n, n, fun _ => false, x.r⟩) := hidI (by
    have h1 := heap_setCell_same w1 sb 2 _ _ (.slice (some ⟨tb, 0, none⟩) n n) hb1
    refine ⟨?_, Or.inr ⟨rfl, tb, cur, rfl, (fr_set w1 sb 2 _).same (fun hm => ?_) hcur, fun k hk => hz k hk⟩, hn1⟩
    · rw [h1]
      congr 2
      unfold rv
      rw [hxn, hi]
      rfl
    · have e2 : tb = sb := by simpa using hm
      rw [e2, hb1] at hcur
      simp at hcur)
  have F2 : Hid (Fr [sb] w (w1.setCell ⟨sb, 2, none⟩ (.slice (some ⟨tb, 0, none⟩) n n))) := hidI ((f1.mono (fun _ _ e => nomatch e)).trans (fr_set w1 sb 2 _))
  clear h hi hxn hcur hz hb1 how
  go_enter Tryz.func143, Tryz.ntmps143
  go_upto_region 6 with (go_at_call 216; refine OX.mono ?_; rintro e wz ⟨rfl, hz⟩; rw [hz]; clear hz)
  go_upto_region 7 with fail
  generalize w1.setCell ⟨sb, 2, none⟩ (.slice (some ⟨tb, 0, none⟩) n n) = w2 at R2 F2 ⊢
  clear hmk z2 c2 c0 c1 OX
  go_wp2_with fail
  go_loopw [4] (fun s4 wr => ∃ k : Nat, k ≤ ow ∧ s4 = .int .i64 (k : Int) ∧ Hid (RfAt wr sb ⟨n, true, some ⟨tb, 0, none⟩, n, n, fun j => decide (j < k), x.r⟩ ∧ Fr [sb] w wr)) (fun s4 _ => ow - (intOf s4).toNat)
  case atStart => exact ⟨0, by omega, rfl, hidI ⟨R2.out.congrK (fun k _ => by simp), F2.out⟩⟩
  case round =>
    obtain ⟨k, hk, rfl, HR⟩ := hrel
    by_cases hlt : k < ow
    · have q0 : (k : Int) < (ow : Int) := by omega
      have q3 : (k : Int) < (n : Int) := by omega
      have c2 := HR.out.1.c2
      obtain ⟨_, tb', ha, ck, zk⟩ := HR.out.1.ck (k := k) (show n ≠ 0 by omega) (show k < n by omega)
      cases ha
      have HS := hidI (HR.out.1.setK (show n ≠ 0 by omega) rfl (show k < n by omega) true)
      have f3 : Fr [sb] w (wr.setCell ⟨tb, k, none⟩ (.bool true)) := HR.out.2.then (fr_set wr tb k _) (fun i hi hm => by simp at hm; omega)
      have F3 := hidI f3
      clear f3
      go_wp2_with fail
      refine ⟨⟨k + 1, by omega, by go_num, hidI ⟨HS.out.congrK (fun j _ => ?_), F3.out⟩⟩, by simp [intOf]; omega⟩
      show decide (j < k + 1) = updK _ k true j
      unfold updK
      by_cases e : j = k
      · simp [e]
      · simp [e]
        omega
    · have q0 : ¬ (k : Int) < (ow : Int) := by omega
      have hkw : k = ow := by omega
      have HKW := hidI hkw
      clear hkw
      have b0 := HR.out.1.box
      have r0 : wr.cell? ⟨sb, 3, none⟩ = some (.int .i64 (x.r 0 : Int)) := HR.out.1.cr (k := 0) (by omega)
      have z0 := frozen_of_row wr sb 3 _ _ b0
      have r1 : wr.cell? ⟨sb, 4, none⟩ = some (.int .i64 (x.r 1 : Int)) := HR.out.1.cr (k := 1) (by omega)
      have z1 := frozen_of_row wr sb 4 _ _ b0
      have r2 : wr.cell? ⟨sb, 5, none⟩ = some (.int .i64 (x.r 2 : Int)) := HR.out.1.cr (k := 2) (by omega)
      have z2 := frozen_of_row wr sb 5 _ _ b0
      have r3 : wr.cell? ⟨sb, 6, none⟩ = some (.int .i64 (x.r 3 : Int)) := HR.out.1.cr (k := 3) (by omega)
      have z3 := frozen_of_row wr sb 6 _ _ b0
      have r4 : wr.cell? ⟨sb, 7, none⟩ = some (.int .i64 (x.r 4 : Int)) := HR.out.1.cr (k := 4) (by omega)
      have z4 := frozen_of_row wr sb 7 _ _ b0
      have r5 : wr.cell? ⟨sb, 8, none⟩ = some (.int .i64 (x.r 5 : Int)) := HR.out.1.cr (k := 5) (by omega)
      have z5 := frozen_of_row wr sb 8 _ _ b0
      have r6 : wr.cell? ⟨sb, 9, none⟩ = some (.int .i64 (x.r 6 : Int)) := HR.out.1.cr (k := 6) (by omega)
      have z6 := frozen_of_row wr sb 9 _ _ b0
      have r7 : wr.cell? ⟨sb, 10, none⟩ = some (.int .i64 (x.r 7 : Int)) := HR.out.1.cr (k := 7) (by omega)
      have z7 := frozen_of_row wr sb 10 _ _ b0
      have HZ := hidI ((((((((HR.out.1.setR (k := 0) (v := 0) (by omega)).setR (k := 1) (v := 0) (by omega)).setR (k := 2) (v := 0) (by omega)).setR (k := 3) (v := 0) (by omega)).setR (k := 4) (v := 0) (by omega)).setR (k := 5) (v := 0) (by omega)).setR (k := 6) (v := 0) (by omega)).setR (k := 7) (v := 0) (by omega))
      have HF := hidI ((((((((HR.out.2.trans (fr_set _ sb 3 (.int .i64 0))).trans (fr_set _ sb 4 (.int .i64 0))).trans (fr_set _ sb 5 (.int .i64 0))).trans (fr_set _ sb 6 (.int .i64 0))).trans (fr_set _ sb 7 (.int .i64 0))).trans (fr_set _ sb 8 (.int .i64 0))).trans (fr_set _ sb 9 (.int .i64 0))).trans (fr_set _ sb 10 (.int .i64 0)))
      clear b0
      go_wp2_with fail
      go_ret
      refine ⟨rfl, tb, Nat.le_refl _, ?_, HF.out⟩
      refine ((HZ.out.congrR (t := fun _ => 0) (fun j hj => ?_)).congrK (t := fun j => decide (j < ow)) (fun j _ => ?_))
      rotate_left
      · show decide (j < ow) = decide (j < k)
        rw [HKW.out]
      have hj8 : j = 0 ∨ j = 1 ∨ j = 2 ∨ j = 3 ∨ j = 4 ∨ j = 5 ∨ j = 6 ∨ j = 7 := by omega
      rcases hj8 with e | e | e | e | e | e | e | e <;> subst e <;> rfl
end Go.Proofs.YtopaeomjndblkaaGreat

namespace Go.Proofs.YtopaeomjndblkaaGreat
open Go.RowKit Go.Maps

theorem RfRow.quiet {w w' : World} {x : Rf} (h : RfRow w x) (f : Fr [] w w') : RfRow w' x := by
  rcases h with e | ⟨e, tb, cur, h1, h2, h3⟩
  · exact Or.inl e
  · exact Or.inr ⟨e, tb, cur, h1, f.same (by simp) h2, h3⟩
/-- append to a row of bools without any, that is new since w0. -/
theorem run_appB (w0 w : World) (g : Nat) (hb0 : w.heap[g]? = some (.cells #[] 4)) (hw0 : w0.heap.size ≤ g) (f0 : Fr [] w0 w) (x : Rf) (hr : RfRow w x) (n1 : x.n ≤ 65536) :
    ∃ b c w', (Builtin.append_ #[120, 120] 120 #[.slice (some ⟨g, 0, none⟩) 0 0, .slice x.ad x.tl x.tc]).run Tryz.prog w = .ok (.slice (some ⟨b, 0, none⟩) x.tl c) w' ∧ RfRow w' { x with ad := some ⟨b, 0, none⟩, tc := c } ∧ w0.heap.size ≤ b ∧ Fr [] w0 w' := by
  obtain ⟨i, hi, hz, hs, hb⟩ := info4'
  by_cases h0 : x.tl = 0
  · refine ⟨g, 0, w, ?_, Or.inl h0, hw0, f0⟩
    rw [h0]
    cases x.ad with
    | none => simp [Builtin.append_, run_underlying Tryz.underlying120, sizeOf, typeInfo, hi, Builtin.lenOf, Builtin.firstCells, storeCells]
    | some a => simp [Builtin.append_, run_underlying Tryz.underlying120, sizeOf, typeInfo, hi, Builtin.lenOf, Builtin.firstCells, loadCells, loadCellsFrom, storeCells]
  · obtain ⟨e, tb, cur, ha, hg, hk⟩ : x.tl = x.n ∧ ∃ tb cur, x.ad = some ⟨tb, 0, none⟩ ∧ w.heap[tb]? = some (.cells cur 4) ∧ ∀ k, k < x.n → cur[k]? = some (.bool (x.tk k)) := hr.resolve_left h0
    rw [ha]
    obtain ⟨news, hnw⟩ : ∃ news : List Value, (List.range x.n).map (fun k => Value.bool (x.tk k)) = news := ⟨_, rfl⟩
    have hlen : news.length = x.n := by rw [← hnw]; simp
    have hget : ∀ j, j < x.n → news[j]? = some (.bool (x.tk j)) := fun j hj => by rw [← hnw]; simp [hj]
    have hown : w.ownsRow w0.heap.size 4 1 (.slice (some ⟨g, 0, none⟩) 0 0) 0 [] := ⟨rfl, Or.inr ⟨g, 0, #[], rfl, hw0, hb0, Nat.le_refl _, by unfold maxLen; omega, rfl, rfl⟩⟩
    obtain ⟨v', w', hrun, h2, h3, h4⟩ := run_append_own (P := Tryz.prog) w w0.heap.size 120 120 4 i (.bool false) 1 1 Tryz.underlying120 hi hz hs hb rfl (by omega) _ 0 [] hown ⟨tb, 0, none⟩ x.n x.tc news (by omega)
      (by
        intro j u hu
        have hj : j < x.n := by rw [← hlen]; exact (List.getElem?_eq_some_iff.1 hu).1
        rw [hget j hj] at hu
        rw [Addr.add_lit, Nat.zero_add, cell_of_row w tb j _ _ _ hg, hk j hj, hu])
      (by
        intro u hu
        rw [← hnw] at hu
        obtain ⟨k, _, rfl⟩ := List.mem_map.1 hu
        rfl) (by unfold maxLen; omega) (by omega) f0.size
    have hfr : Fr [] w0 w' := f0.grown h3 (fun j e hj => by
      have := (hown.lt j e).1
      omega)
    rcases h2.2 with ⟨e2, _⟩ | ⟨g2, cap, cur2, rfl, hbg, hg2, hnc, _, hcs, htk⟩
    · exfalso
      have := h4.1 e2
      cases this.1
    · rw [Nat.zero_add] at hrun
      refine ⟨g2, cap, w', by rw [e]; exact hrun, Or.inr ⟨e, g2, cur2, rfl, hg2, fun k hk2 => ?_⟩, hbg, hfr⟩
      have hk3 : k < x.n := hk2
      have h5 : (cur2.toList.take ((0 + x.n) * 1))[k]? = ([] ++ news)[k]? := by rw [htk]
      rw [List.getElem?_take, if_pos (by omega), List.nil_append, hget k hk3] at h5
      simpa using h5
/-- A call of append whose run is known. -/
theorem wpList_appRun {ops : Array Oper} {rest : List Oper} {o : Oper} {a : Act} {w w' : World} {Q : Exit → Act → World → Prop} (hgd : o.guard = none) (s x : Operand) (t : TypeId)
    (ho : o.op = .call { callee := .builtin .append, args := #[s, x], argTypes := #[t, t] }) (sv xv v : Value) (hs : a.eval s = sv) (hx : a.eval x = xv)
    (hr : (Builtin.append_ #[t, t] o.type #[sv, xv]).run Tryz.prog w = .ok v w') (h : wpList Tryz.prog ops Q rest (a.put o.dst v) w') : wpList Tryz.prog ops Q (o :: rest) a w :=
  wpList_plain hgd fun _ hK => by
    unfold Oper.wp execOp
    simp only [ho, resolve, invoke, builtin, Sem.run_bind, Sem.run_pure, Result.andThen_ok, List.map_toArray, List.map_cons, List.map_nil, hs, hx, hr]
    exact hK _ _ h
set_option maxHeartbeats 4000000 in
set_option maxRecDepth 100000 in
theorem rfCopy_any {w : World} {sb : Nat} {x : Rf} (h : RfAt w sb x) :
    Calls Tryz.prog 141 #[.pointer (some ⟨sb, 0, none⟩)] w fun e w' => ∃ cb b c, e = .returned (.pointer (some ⟨cb, 0, none⟩)) ∧ w.heap.size ≤ cb ∧ w.heap.size ≤ b ∧ RfAt w' cb { x with ad := some ⟨b, 0, none⟩, tc := c } ∧ Fr [] w w' := by
  have hb := h.box
  have c0 := h.c0
  have c1 := h.c1
  have c2 := h.c2
  have r0 : w.cell? ⟨sb, 3, none⟩ = some (.int .i64 (x.r 0 : Int)) := h.cr (k := 0) (by omega)
  have r1 : w.cell? ⟨sb, 4, none⟩ = some (.int .i64 (x.r 1 : Int)) := h.cr (k := 1) (by omega)
  have r2 : w.cell? ⟨sb, 5, none⟩ = some (.int .i64 (x.r 2 : Int)) := h.cr (k := 2) (by omega)
  have r3 : w.cell? ⟨sb, 6, none⟩ = some (.int .i64 (x.r 3 : Int)) := h.cr (k := 3) (by omega)
  have r4 : w.cell? ⟨sb, 7, none⟩ = some (.int .i64 (x.r 4 : Int)) := h.cr (k := 4) (by omega)
  have r5 : w.cell? ⟨sb, 8, none⟩ = some (.int .i64 (x.r 5 : Int)) := h.cr (k := 5) (by omega)
  have r6 : w.cell? ⟨sb, 9, none⟩ = some (.int .i64 (x.r 6 : Int)) := h.cr (k := 6) (by omega)
  have r7 : w.cell? ⟨sb, 10, none⟩ = some (.int .i64 (x.r 7 : Int)) := h.cr (k := 7) (by omega)
  obtain ⟨cb, hcb⟩ : ∃ cb, w.heap.size = cb := ⟨_, rfl⟩
  obtain ⟨w1, hw1⟩ : ∃ w1, w.alloc (.cells (rv x) 123) = w1 := ⟨_, rfl⟩
  have F1 : Fr [] w w1 := by rw [← hw1]; exact (Fr.refl _ _).alloc _
  have B1 : w1.heap[cb]? = some (.cells (rv x) 123) := by rw [← hw1, ← hcb]; exact heap_alloc_new w _
  have R1 := h.quiet F1
  have cc2 : w1.cell? ⟨sb, 2, none⟩ = some (.slice x.ad x.tl x.tc) := R1.c2
  obtain ⟨g, hg⟩ : ∃ g, w1.heap.size = g := ⟨_, rfl⟩
  obtain ⟨w2, hw2⟩ : ∃ w2, w1.alloc (.cells #[] 4) = w2 := ⟨_, rfl⟩
  have F12 : Fr [] w1 w2 := by rw [← hw2]; exact (Fr.refl _ _).alloc _
  have B2 : w2.heap[g]? = some (.cells #[] 4) := by rw [← hw2, ← hg]; exact heap_alloc_new w1 _
  have c3 : w2.cell? ⟨sb, 2, none⟩ = some (.slice x.ad x.tl x.tc) := (R1.quiet F12).c2
  obtain ⟨b, c, w3, hap, hrow, hbb, F3⟩ := run_appB w1 w2 g B2 (by rw [← hg]; exact Nat.le_refl _) F12 x (R1.quiet F12).row h.n1
  have B3 : w3.heap[cb]? = some (.cells (rv x) 123) := F3.same (by simp) B1
  have z2 := frozen_of_row w3 cb 2 _ _ B3
  have d2 : w3.cell? ⟨cb, 2, none⟩ = some (.slice x.ad x.tl x.tc) := cell_of_row w3 cb 2 _ _ _ B3
  have hlt : cb < w1.heap.size := (Array.getElem?_eq_some_iff.1 B1).1
  have R3 : Hid (RfAt (w3.setCell ⟨cb, 2, none⟩ (.slice (some ⟨b, 0, none⟩) x.tl c)) cb { x with ad := some ⟨b, 0, none⟩, tc := c }) := hidI (by
    have h1 := heap_setCell_same w3 cb 2 _ _ (.slice (some ⟨b, 0, none⟩) x.tl c) B3
    refine ⟨h1, ?_, h.n1⟩
    rcases hrow with e1 | ⟨e1, tb, cur, h2, h3, h4⟩
    · exact Or.inl e1
    · refine Or.inr ⟨e1, tb, cur, h2, (fr_set w3 cb 2 _).same (fun hm => ?_) h3, h4⟩
      have e2 : tb = cb := by simpa using hm
      have e3 : b = tb := by injection h2 with h2; injection h2
      omega)
  have F4 : Hid (Fr [] w (w3.setCell ⟨cb, 2, none⟩ (.slice (some ⟨b, 0, none⟩) x.tl c))) := hidI ((F1.trans F3).then (fr_set w3 cb 2 _) (fun i hi hm => by simp at hm; omega))
  have hs : w.heap.size ≤ cb := by omega
  have hs2 : w.heap.size ≤ b := by have := F1.size; omega
  clear hb h hrow B1 B3 hbb hlt R1 B2 F12 F3 F1
  go_enter Tryz.func141, Tryz.ntmps141
  go_upto_region 2 with fail
  rw [show #[Value.int IntKind.i64 ↑x.n, Value.bool x.inT, Value.slice x.ad x.tl x.tc, Value.int IntKind.i64 ↑(x.r 0), Value.int IntKind.i64 ↑(x.r 1), Value.int IntKind.i64 ↑(x.r 2), Value.int IntKind.i64 ↑(x.r 3), Value.int IntKind.i64 ↑(x.r 4), Value.int IntKind.i64 ↑(x.r 5), Value.int IntKind.i64 ↑(x.r 6), Value.int IntKind.i64 ↑(x.r 7)] = rv x from rfl, hw1]
  clear hw1 hcb c0 c1 c2 r0 r1 r2 r3 r4 r5 r6 r7
  go_upto_region 3 with (refine wpList_appRun rfl _ _ _ rfl _ _ _ rfl rfl hap ?_)
  go_wp2_with fail
  go_ret
  exact ⟨cb, b, c, rfl, hs, hs2, R3.out, F4.out⟩
end Go.Proofs.YtopaeomjndblkaaGreat

namespace Go.Proofs.YtopaeomjndblkaaGreat
open Go.RowKit Go.Maps

/-- Types of the law's own boxes: none is a book's. -/
def Frn (t : TypeId) : Prop := t = 4 ∨ t = 123 ∨ t = 126
theorem Frn.away {t : TypeId} (h : Frn t) {w : World} {b : Bk} (hb : BkAt w b) {g : Nat} {cur : Array Value} (hg : w.heap[g]? = some (.cells cur t)) : b.bp ≠ g ∧ g ∉ b.dp :: b.x.own ∧ b.x.pp ≠ g := by
  rcases h with rfl | rfl | rfl <;> exact hb.away hg (by decide) (by decide) (by decide) (by decide)
/-- Boxes of the law's are turned, and what the book keeps is told anew. -/
theorem Ab.puts {w0 w w' : World} {bp : Nat} {b : Bk} {K : List (Nat × Obj)} (h : Ab w0 w bp b K) {L : List Nat} (f : Fr L w w')
    (hL : ∀ g ∈ L, w0.heap.size ≤ g ∧ (w.heap.size ≤ g ∨ ∃ cur t, Frn t ∧ w.heap[g]? = some (.cells cur t)))
    (K' : List (Nat × Obj)) (hK : ∀ p ∈ K', ∃ cur t, Frn t ∧ p.2 = .cells cur t ∧ w'.heap[p.1]? = some p.2) : Ab w0 w' bp b K' := by
  have hlt : ∀ k ∈ b.bp :: b.x.pp :: b.dp :: b.x.own, k < w.heap.size := fun k hk => h.bk.lt k (by simp at hk ⊢; rcases hk with e | e | e | e <;> simp [e])
  have hno : ∀ k ∈ b.bp :: b.x.pp :: b.dp :: b.x.own, k ∉ L := fun k hk hm => by
    rcases (hL k hm).2 with h1 | ⟨cur, t, ht, hg⟩
    · have := hlt k hk
      omega
    · have h2 := ht.away h.bk hg
      rcases List.mem_cons.1 hk with e | hk
      · exact h2.1 e.symm
      · rcases List.mem_cons.1 hk with e | hk
        · exact h2.2.2 e.symm
        · exact h2.2.1 hk
  have hb : BkAt w' b := h.bk.kept f (hno _ (by simp)) (hno _ (by simp)) (fun k hk => hno k (by
    rcases List.mem_cons.1 hk with e | e
    · simp [e]
    · simp [e]))
  refine ⟨hb, h.fr.then f (fun i hi hm => by have := (hL i hm).1; omega), h.new, h.ebp, fun p hp => ?_⟩
  obtain ⟨cur, t, ht, e, hg⟩ := hK p hp
  exact ⟨hg, (ht.away hb (by rw [hg, e])).2.1⟩
/-- The law's boxes, as a list tells them: the rig, the document's space, the saved one, their rows. -/
def RowIn (K : List (Nat × Obj)) (x : Rf) : Prop := x.tl = 0 ∨ (x.tl = x.n ∧ ∃ tb cur, x.ad = some ⟨tb, 0, none⟩ ∧ (tb, Obj.cells cur 4) ∈ K ∧ ∀ k, k < x.n → cur[k]? = some (.bool (x.tk k)))
structure Rg (K : List (Nat × Obj)) (B gb bp sb vb : Nat) (x y : Rf) : Prop where
  rig : (gb, Obj.cells #[.pointer (some ⟨bp, 0, none⟩), .pointer (some ⟨sb, 0, none⟩), .pointer (some ⟨vb, 0, none⟩)] 126) ∈ K
  s : (sb, Obj.cells (rv x) 123) ∈ K
  v : (vb, Obj.cells (rv y) 123) ∈ K
  rs : RowIn K x
  rw : RowIn K y
  ne : sb ≠ vb
  ap : ∀ t1 t2, x.tl ≠ 0 → y.tl ≠ 0 → x.ad = some ⟨t1, 0, none⟩ → y.ad = some ⟨t2, 0, none⟩ → t1 ≠ t2
  n1 : x.n ≤ 65536
  n2 : y.n = x.n
  lo : B ≤ gb ∧ B ≤ sb ∧ B ≤ vb ∧ (∀ t, x.tl ≠ 0 → x.ad = some ⟨t, 0, none⟩ → B ≤ t) ∧ ∀ t, y.tl ≠ 0 → y.ad = some ⟨t, 0, none⟩ → B ≤ t
section
variable {K : List (Nat × Obj)} {B gb bp sb vb : Nat} {x y : Rf} {w : World}
theorem RowIn.at (h : RowIn K x) (hk : ∀ p ∈ K, w.heap[p.1]? = some p.2) : RfRow w x := by
  rcases h with e | ⟨e, tb, cur, h1, h2, h3⟩
  · exact Or.inl e
  · exact Or.inr ⟨e, tb, cur, h1, hk _ h2, h3⟩
theorem Rg.sAt (h : Rg K B gb bp sb vb x y) (hk : ∀ p ∈ K, w.heap[p.1]? = some p.2) : RfAt w sb x := ⟨hk _ h.s, h.rs.at hk, h.n1⟩
theorem Rg.vAt (h : Rg K B gb bp sb vb x y) (hk : ∀ p ∈ K, w.heap[p.1]? = some p.2) : RfAt w vb y := ⟨hk _ h.v, h.rw.at hk, by rw [h.n2]; exact h.n1⟩
theorem Rg.gAt (h : Rg K B gb bp sb vb x y) (hk : ∀ p ∈ K, w.heap[p.1]? = some p.2) : w.heap[gb]? = some (.cells #[.pointer (some ⟨bp, 0, none⟩), .pointer (some ⟨sb, 0, none⟩), .pointer (some ⟨vb, 0, none⟩)] 126) := hk _ h.rig
/-- A list of a row's box, or of none. -/
theorem row_list (h : RfRow w x) : ∃ K : List (Nat × Obj), RowIn K x ∧ ∀ p ∈ K, ∃ cur t, Frn t ∧ p.2 = Obj.cells cur t ∧ w.heap[p.1]? = some p.2 := by
  rcases h with e | ⟨e, tb, cur, h1, h2, h3⟩
  · exact ⟨[], Or.inl e, fun p hp => by simp at hp⟩
  · refine ⟨[(tb, Obj.cells cur 4)], Or.inr ⟨e, tb, cur, h1, by simp, h3⟩, fun p hp => ?_⟩
    have e1 : p = (tb, Obj.cells cur 4) := by simpa using hp
    subst e1
    exact ⟨cur, 4, Or.inl rfl, rfl, h2⟩
theorem RowIn.more {K' : List (Nat × Obj)} (h : RowIn K x) (hk : ∀ p ∈ K, p ∈ K') : RowIn K' x := by
  rcases h with e | ⟨e, tb, cur, h1, h2, h3⟩
  · exact Or.inl e
  · exact Or.inr ⟨e, tb, cur, h1, hk _ h2, h3⟩
theorem rg_of (hg : w.heap[gb]? = some (.cells #[.pointer (some ⟨bp, 0, none⟩), .pointer (some ⟨sb, 0, none⟩), .pointer (some ⟨vb, 0, none⟩)] 126)) (hs : RfAt w sb x) (hv : RfAt w vb y) (ne : sb ≠ vb)
    (ap : ∀ t1 t2, x.tl ≠ 0 → y.tl ≠ 0 → x.ad = some ⟨t1, 0, none⟩ → y.ad = some ⟨t2, 0, none⟩ → t1 ≠ t2) (n2 : y.n = x.n)
    (lo : B ≤ gb ∧ B ≤ sb ∧ B ≤ vb ∧ (∀ t, x.tl ≠ 0 → x.ad = some ⟨t, 0, none⟩ → B ≤ t) ∧ ∀ t, y.tl ≠ 0 → y.ad = some ⟨t, 0, none⟩ → B ≤ t) :
    ∃ K, Rg K B gb bp sb vb x y ∧ ∀ p ∈ K, ∃ cur t, Frn t ∧ p.2 = Obj.cells cur t ∧ w.heap[p.1]? = some p.2 := by
  obtain ⟨K1, r1, k1⟩ := row_list hs.row
  obtain ⟨K2, r2, k2⟩ := row_list hv.row
  refine ⟨(gb, _) :: (sb, _) :: (vb, _) :: (K1 ++ K2), ⟨List.mem_cons_self, List.mem_cons_of_mem _ List.mem_cons_self, List.mem_cons_of_mem _ (List.mem_cons_of_mem _ List.mem_cons_self), r1.more (fun p hp => by simp [hp]), r2.more (fun p hp => by simp [hp]), ne, ap, hs.n1, n2, lo⟩, fun p hp => ?_⟩
  rcases List.mem_cons.1 hp with rfl | hp
  · exact ⟨_, _, Or.inr (Or.inr rfl), rfl, hg⟩
  rcases List.mem_cons.1 hp with rfl | hp
  · exact ⟨_, _, Or.inr (Or.inl rfl), rfl, hs.box⟩
  rcases List.mem_cons.1 hp with rfl | hp
  · exact ⟨_, _, Or.inr (Or.inl rfl), rfl, hv.box⟩
  rcases List.mem_append.1 hp with hp | hp
  · exact k1 p hp
  · exact k2 p hp
end
end Go.Proofs.YtopaeomjndblkaaGreat

namespace Go.Proofs.YtopaeomjndblkaaGreat
open Go.RowKit Go.Maps

theorem blk_ne {w : World} {a b : Nat} {c1 c2 : Array Value} {t1 t2 : TypeId} (h1 : w.heap[a]? = some (.cells c1 t1)) (h2 : w.heap[b]? = some (.cells c2 t2)) (ht : t1 ≠ t2) : a ≠ b := by
  rintro rfl
  rw [h1] at h2
  cases h2
  exact ht rfl
section
variable {K : List (Nat × Obj)} {w0 w w' : World} {gb bp sb vb : Nat} {x y x' : Rf} {b : Bk}
theorem RfRow.box (h : RfRow w x) (ht : x.tl ≠ 0) {t : Nat} (ha : x.ad = some ⟨t, 0, none⟩) : ∃ cur, w.heap[t]? = some (.cells cur 4) := by
  rcases h with e | ⟨_, tb, cur, h1, h2, _⟩
  · exact (ht e).elim
  · rw [ha] at h1
    cases h1
    exact ⟨cur, h2⟩
theorem Rg.turnS (R : Rg K w0.heap.size gb bp sb vb x y) (A : Ab w0 w bp b K) {L : List Nat} (f : Fr L w w') (hL : ∀ g ∈ L, g = sb ∨ (x.tl ≠ 0 ∧ x.ad = some ⟨g, 0, none⟩)) (hs : RfAt w' sb x') (hn : x'.n = x.n)
    (ha : ∀ t, x'.tl ≠ 0 → x'.ad = some ⟨t, 0, none⟩ → (x.tl ≠ 0 ∧ x.ad = some ⟨t, 0, none⟩) ∨ w.heap.size ≤ t) : ∃ K', Ab w0 w' bp b K' ∧ Rg K' w0.heap.size gb bp sb vb x' y := by
  have kp : ∀ p ∈ K, w.heap[p.1]? = some p.2 := fun p hp => (A.kp p hp).1
  have G := R.gAt kp
  have S := R.sAt kp
  have V := R.vAt kp
  have hg : gb ∉ L := fun hm => by
    rcases hL gb hm with e | ⟨h1, h2⟩
    · exact blk_ne G S.box (by decide) e
    · obtain ⟨cur, hc⟩ := S.row.box h1 h2
      exact blk_ne G hc (by decide) rfl
  have hv : vb ∉ L := fun hm => by
    rcases hL vb hm with e | ⟨h1, h2⟩
    · exact R.ne e.symm
    · obtain ⟨cur, hc⟩ := S.row.box h1 h2
      exact blk_ne V.box hc (by decide) rfl
  have hV : RfAt w' vb y := by
    refine ⟨f.same hv V.box, ?_, V.n1⟩
    rcases V.row with e | ⟨e, tb, cur, h1, h2, h3⟩
    · exact Or.inl e
    · by_cases h0 : y.tl = 0
      · exact Or.inl h0
      · refine Or.inr ⟨e, tb, cur, h1, f.same (fun hm => ?_) h2, h3⟩
        rcases hL tb hm with e2 | ⟨h4, h5⟩
        · exact blk_ne h2 S.box (by decide) e2
        · exact R.ap tb tb h4 h0 h5 h1 rfl
  obtain ⟨lg, ls, lv, lt, lu⟩ := R.lo
  obtain ⟨K', R', k'⟩ := rg_of (B := w0.heap.size) (bp := bp) (f.same hg G) hs hV R.ne
    (fun t1 t2 h1 h2 h3 h4 => by
      rcases ha t1 h1 h3 with ⟨h5, h6⟩ | h5
      · exact R.ap t1 t2 h5 h2 h6 h4
      · obtain ⟨cur, hc⟩ := V.row.box h2 h4
        have := (Array.getElem?_eq_some_iff.1 hc).1
        omega) (by rw [hn]; exact R.n2)
    ⟨lg, ls, lv, fun t h1 h3 => by
      rcases ha t h1 h3 with ⟨h5, h6⟩ | h5
      · exact lt t h5 h6
      · exact Nat.le_trans A.fr.size h5, lu⟩
  refine ⟨K', A.puts f (fun g hm => ?_) K' k', R'⟩
  rcases hL g hm with e | ⟨h1, h2⟩
  · rw [e]
    exact ⟨ls, Or.inr ⟨_, _, Or.inr (Or.inl rfl), S.box⟩⟩
  · obtain ⟨cur, hc⟩ := S.row.box h1 h2
    exact ⟨lt g h1 h2, Or.inr ⟨cur, 4, Or.inl rfl, hc⟩⟩
end
end Go.Proofs.YtopaeomjndblkaaGreat

namespace Go.Proofs.YtopaeomjndblkaaGreat
open Go.RowKit Go.Maps

structure Sy (n : Nat) (x : Rf) (V : Pages) : Prop where
  z : Spz n V x.tk
  rt : ∀ j, j < 8 → numAt (V 0) (8 + 4 * j) = x.r j
/-- There is no space yet, and all pages are noughts; or there is one, and it is the document's. -/
def Says (n : Nat) (x : Rf) (V : Pages) : Prop := x.n = n ∧ ((x.tl = 0 ∧ ∀ p, p < n → V p = zs 512) ∨ (x.tl ≠ 0 ∧ Sy n x V))
section
variable {n : Nat} {x : Rf} {V : Pages}
theorem Says.yes (h : Says n x V) (ht : x.tl ≠ 0) : Sy n x V := by
  rcases h.2 with ⟨e, _⟩ | ⟨_, hs⟩
  · exact (ht e).elim
  · exact hs
theorem Says.no (h : Says n x V) (ht : x.tl = 0) (hn : 0 < n) : ¬ IsHd n (V 0) := by
  rcases h.2 with ⟨_, hz⟩ | ⟨e, _⟩
  · rw [hz 0 hn]
    exact zs_notHd n
  · exact (e ht).elim
theorem Says.far (h : Says n x V) (hn : 0 < n) : ∀ i, 40 ≤ i → i < 512 → byteAt (V 0) i = 0 := fun i hi h5 => by
  rcases h.2 with ⟨_, hz⟩ | ⟨_, hs⟩
  · rw [hz 0 hn]
    exact zs_byte i
  · exact hs.z.sp.hd.far hi h5
theorem Says.nought (h : Says n x V) {p : Nat} (ho : ownN n ≤ p) (hp : p < n) : V p = zs 512 := by
  rcases h.2 with ⟨_, hz⟩ | ⟨_, hs⟩
  · exact hz p hp
  · exact hs.z.z p ho hp
theorem Says.bits (h : Says n x V) (ht : x.tl ≠ 0) {k : Nat} (hk : k < n) : MkB V k = x.tk k := (h.yes ht).z.bits k hk
theorem Says.format {ad : Option Addr} {b : Bool} (h : Says n x V) (hn : 3 ≤ n) (hl : ∀ q, q < n → (V q).length = 512) : Says n ⟨n, b, ad, n, n, fun k => decide (k < ownN n), fun _ => 0⟩ (fmtV n V) :=
  ⟨rfl, Or.inr ⟨show n ≠ 0 by omega, fmt_spz (fun t ht => hl _ (by unfold mapsN at ht; omega)) hn (fun p h1 h2 => h.nought h1 h2), fun _ hj => fmtV_root hj⟩⟩
theorem Says.take (h : Says n x V) (ht : x.tl ≠ 0) (hl : ∀ q, q < n → (V q).length = 512) {p : Nat} (hp : p < n) (hf : x.tk p = false) : Says n { x with tk := updK x.tk p true } (takeV V p) := by
  have hs := h.yes ht
  have ho : ownN n ≤ p := hs.z.sp.free (by rw [hs.z.bits p hp]; exact hf)
  have h1 := own_gt hp
  refine ⟨h.1, Or.inr ⟨ht, (hs.z.take hp ho (hl _ (by omega))).congr (fun k _ => ?_), fun j hj => ?_⟩⟩
  · unfold updK
    by_cases e : k = p
    · simp [e]
    · simp [e]
  · rw [takeV_own hp ho (by omega) (by omega)]
    exact hs.rt j hj
theorem Says.give (h : Says n x V) (ht : x.tl ≠ 0) (hl : ∀ q, q < n → (V q).length = 512) {p : Nat} (hp : p < n) (ho : ownN n ≤ p) : Says n { x with tk := updK x.tk p false } (bitV V p clrB) := by
  have hs := h.yes ht
  have h1 := own_gt hp
  refine ⟨h.1, Or.inr ⟨ht, (hs.z.give hp ho (hl _ (by omega))).congr (fun k _ => ?_), fun j hj => ?_⟩⟩
  · unfold updK
    by_cases e : k = p
    · simp [e]
    · simp [e]
  · rw [bitV_else (by omega)]
    exact hs.rt j hj
theorem Says.root (h : Says n x V) (ht : x.tl ≠ 0) (hn : 0 < n) (hn2 : n ≤ 65536) (hl : ∀ q, q < n → (V q).length = 512) {k v : Nat} (hk : k < 8) (hv : v < n) : Says n { x with r := upd x.r k v } (rootV V k v) := by
  have hs := h.yes ht
  refine ⟨h.1, Or.inr ⟨ht, hs.z.root (hl 0 hn) hk hv hn2, fun j hj => ?_⟩⟩
  rw [rootV_root (hl 0 hn) hk hj (by omega)]
  show _ = upd x.r k v j
  unfold upd
  by_cases e : j = k
  · simp [e]
  · rw [if_neg e, if_neg e]
    exact hs.rt j hj
theorem Says.other {y : Rf} (h : Says n x V) (h1 : y.n = x.n) (h2 : y.tl = 0 ↔ x.tl = 0) (h3 : y.tk = x.tk) (h4 : y.r = x.r) : Says n y V := by
  refine ⟨h1.trans h.1, ?_⟩
  rcases h.2 with ⟨e, hz⟩ | ⟨e, hs⟩
  · exact Or.inl ⟨h2.2 e, hz⟩
  · exact Or.inr ⟨fun e2 => e (h2.1 e2), ⟨by rw [h3]; exact hs.z, by rw [h4]; exact hs.rt⟩⟩
end
end Go.Proofs.YtopaeomjndblkaaGreat

namespace Go.Proofs.YtopaeomjndblkaaGreat
open Go.RowKit Go.Maps

section
variable {K : List (Nat × Obj)} {w0 w w' : World} {gb bp sb vb sb' vb' : Nat} {x y x' y' : Rf} {b : Bk}
/-- The rig's boxes are turned, or others come in their place. -/
theorem Rg.next (R : Rg K w0.heap.size gb bp sb vb x y) (A : Ab w0 w bp b K) {L : List Nat} (f : Fr L w w') (hL : ∀ g ∈ L, g = gb ∨ g = sb ∨ g = vb)
    (hg : w'.heap[gb]? = some (.cells #[.pointer (some ⟨bp, 0, none⟩), .pointer (some ⟨sb', 0, none⟩), .pointer (some ⟨vb', 0, none⟩)] 126)) (hs : RfAt w' sb' x') (hv : RfAt w' vb' y') (ne : sb' ≠ vb')
    (ap : ∀ t1 t2, x'.tl ≠ 0 → y'.tl ≠ 0 → x'.ad = some ⟨t1, 0, none⟩ → y'.ad = some ⟨t2, 0, none⟩ → t1 ≠ t2) (n2 : y'.n = x'.n)
    (lo : w0.heap.size ≤ sb' ∧ w0.heap.size ≤ vb' ∧ (∀ t, x'.tl ≠ 0 → x'.ad = some ⟨t, 0, none⟩ → w0.heap.size ≤ t) ∧ ∀ t, y'.tl ≠ 0 → y'.ad = some ⟨t, 0, none⟩ → w0.heap.size ≤ t) :
    ∃ K', Ab w0 w' bp b K' ∧ Rg K' w0.heap.size gb bp sb' vb' x' y' := by
  have kp : ∀ p ∈ K, w.heap[p.1]? = some p.2 := fun p hp => (A.kp p hp).1
  obtain ⟨lg, ls, lv, _, _⟩ := R.lo
  obtain ⟨K', R', k'⟩ := rg_of (B := w0.heap.size) (bp := bp) hg hs hv ne ap n2 ⟨lg, lo.1, lo.2.1, lo.2.2⟩
  refine ⟨K', A.puts f (fun g hm => ?_) K' k', R'⟩
  rcases hL g hm with e | e | e
  · rw [e]
    exact ⟨lg, Or.inr ⟨_, _, Or.inr (Or.inr rfl), R.gAt kp⟩⟩
  · rw [e]
    exact ⟨ls, Or.inr ⟨_, _, Or.inr (Or.inl rfl), (R.sAt kp).box⟩⟩
  · rw [e]
    exact ⟨lv, Or.inr ⟨_, _, Or.inr (Or.inl rfl), (R.vAt kp).box⟩⟩
end
/-- The rig, its book and the document's space: out of a transaction, or in one. -/
structure LvO (w0 w : World) (gb bp sb vb nb : Nat) (x y : Rf) (p s : Int) (K : List (Nat × Obj)) (m : Mst) (b : Bk) (V : Pages) : Prop where
  rg : Rg K w0.heap.size gb bp sb vb x y
  i : Idl w0 w bp K nb m b V
  xi : x.inT = false
  yi : y.inT = false
  xs : Says b.x.pages x V
  E : (b.x.y.E : Int) ≤ p
  sq : (m.seq : Int) ≤ s
  nb4 : nb ≤ 400
structure LvI (w0 w : World) (gb bp sb vb nb : Nat) (x y : Rf) (p s : Int) (K : List (Nat × Obj)) (m : Mst) (U : Pages) (b : Bk) (H : List Ch) (V : Pages) : Prop where
  rg : Rg K w0.heap.size gb bp sb vb x y
  i : In w0 w bp K nb m U b H V
  xi : x.inT = true
  yi : y.inT = false
  xs : Says b.x.pages x V
  ys : Says b.x.pages y U
  ph : phN b H ≤ p
  sq : (m.seq : Int) ≤ s
  nb4 : nb ≤ 400
/-- In a transaction that is to be undone: the document's space may say anything. -/
structure LvA (w0 w : World) (gb bp sb vb nb : Nat) (x y : Rf) (p s : Int) (K : List (Nat × Obj)) (m : Mst) (U : Pages) (b : Bk) (H : List Ch) (V : Pages) : Prop where
  rg : Rg K w0.heap.size gb bp sb vb x y
  i : In w0 w bp K nb m U b H V
  xi : x.inT = true
  yi : y.inT = false
  ys : Says b.x.pages y U
  ph : phN b H ≤ p
  sq : (m.seq : Int) ≤ s
  nb4 : nb ≤ 400
def Lv (w0 w : World) (gb bp nb : Nat) (p s : Int) : Prop := ∃ sb vb x y K m b, (∃ V, LvO w0 w gb bp sb vb nb x y p s K m b V) ∨ ∃ U H V, LvI w0 w gb bp sb vb nb x y p s K m U b H V
section
variable {K : List (Nat × Obj)} {w0 w w' : World} {gb bp sb vb nb : Nat} {x y : Rf} {p s p' s' : Int} {m : Mst} {U V : Pages} {b b' : Bk} {H : List Ch}
theorem LvO.kp (h : LvO w0 w gb bp sb vb nb x y p s K m b V) : ∀ q ∈ K, w.heap[q.1]? = some q.2 := fun q hq => (h.i.ab.kp q hq).1
theorem LvI.kp (h : LvI w0 w gb bp sb vb nb x y p s K m U b H V) : ∀ q ∈ K, w.heap[q.1]? = some q.2 := fun q hq => (h.i.ab.kp q hq).1
theorem LvA.kp (h : LvA w0 w gb bp sb vb nb x y p s K m U b H V) : ∀ q ∈ K, w.heap[q.1]? = some q.2 := fun q hq => (h.i.ab.kp q hq).1
theorem LvI.a (h : LvI w0 w gb bp sb vb nb x y p s K m U b H V) : LvA w0 w gb bp sb vb nb x y p s K m U b H V := ⟨h.rg, h.i, h.xi, h.yi, h.ys, h.ph, h.sq, h.nb4⟩
theorem LvA.quiet (h : LvA w0 w gb bp sb vb nb x y p s K m U b H V) (f : Fr [] w w') : LvA w0 w' gb bp sb vb nb x y p s K m U b H V := { h with i := h.i.quiet f }
theorem LvO.lv (h : LvO w0 w gb bp sb vb nb x y p s K m b V) : Lv w0 w gb bp nb p s := ⟨sb, vb, x, y, K, m, b, Or.inl ⟨V, h⟩⟩
theorem LvI.lv (h : LvI w0 w gb bp sb vb nb x y p s K m U b H V) : Lv w0 w gb bp nb p s := ⟨sb, vb, x, y, K, m, b, Or.inr ⟨U, H, V, h⟩⟩
theorem LvO.quiet (h : LvO w0 w gb bp sb vb nb x y p s K m b V) (f : Fr [] w w') : LvO w0 w' gb bp sb vb nb x y p s K m b V := { h with i := h.i.quiet f }
theorem LvI.quiet (h : LvI w0 w gb bp sb vb nb x y p s K m U b H V) (f : Fr [] w w') : LvI w0 w' gb bp sb vb nb x y p s K m U b H V := { h with i := h.i.quiet f }
theorem LvO.rd (h : LvO w0 w gb bp sb vb nb x y p s K m b V) (r : Rd w0 w' bp K b b') : LvO w0 w' gb bp sb vb nb x y p s K m b' V := { h with i := h.i.rd r, xs := by rw [r.tr.pages]; exact h.xs, E := by rw [r.E]; exact h.E }
theorem LvI.rd (h : LvI w0 w gb bp sb vb nb x y p s K m U b H V) (r : Rd w0 w' bp K b b') : LvI w0 w' gb bp sb vb nb x y p s K m U b' H V := { h with i := h.i.rd r, xs := by rw [r.tr.pages]; exact h.xs, ys := by rw [r.tr.pages]; exact h.ys, ph := by have h1 := (r.did h.i).ph; have h2 := h.ph; omega }
theorem LvO.le (h : LvO w0 w gb bp sb vb nb x y p s K m b V) (hp : p ≤ p') (hs : s ≤ s') : LvO w0 w gb bp sb vb nb x y p' s' K m b V := { h with E := Int.le_trans h.E hp, sq := Int.le_trans h.sq hs }
theorem LvI.le (h : LvI w0 w gb bp sb vb nb x y p s K m U b H V) (hp : p ≤ p') (hs : s ≤ s') : LvI w0 w gb bp sb vb nb x y p' s' K m U b H V := { h with ph := Int.le_trans h.ph hp, sq := Int.le_trans h.sq hs }
end
end Go.Proofs.YtopaeomjndblkaaGreat

namespace Go.Proofs.YtopaeomjndblkaaGreat
open Go.RowKit Go.Maps

section
variable {K : List (Nat × Obj)} {w0 w : World} {gb bp sb vb nb : Nat} {x y : Rf} {p s : Int} {m : Mst} {U V : Pages} {b : Bk} {H : List Ch}
/-- Behind Copy, the saved space and the mark: what the walk needs, and what is there then. -/
theorem LvO.begun (h : LvO w0 w gb bp sb vb nb x y p s K m b V) {w1 : World} {cb bb cc : Nat} (hcb : w.heap.size ≤ cb) (hbb : w.heap.size ≤ bb) (R1 : RfAt w1 cb { x with ad := some ⟨bb, 0, none⟩, tc := cc }) (F1 : Fr [] w w1) :
    w1.frozen? ⟨gb, 2, none⟩ = false ∧ w1.cell? ⟨gb, 2, none⟩ = some (.pointer (some ⟨vb, 0, none⟩)) ∧ w1.cell? ⟨sb, 1, none⟩ = some (.bool false) ∧ (w1.setCell ⟨gb, 2, none⟩ (.pointer (some ⟨cb, 0, none⟩))).cell? ⟨gb, 1, none⟩ = some (.pointer (some ⟨sb, 0, none⟩)) ∧ (w1.setCell ⟨gb, 2, none⟩ (.pointer (some ⟨cb, 0, none⟩))).frozen? ⟨sb, 1, none⟩ = false ∧
    ((w1.setCell ⟨gb, 2, none⟩ (.pointer (some ⟨cb, 0, none⟩))).setCell ⟨sb, 1, none⟩ (.bool true)).cell? ⟨gb, 0, none⟩ = some (.pointer (some ⟨bp, 0, none⟩)) ∧
    ∃ K', Idl w0 ((w1.setCell ⟨gb, 2, none⟩ (.pointer (some ⟨cb, 0, none⟩))).setCell ⟨sb, 1, none⟩ (.bool true)) bp K' nb m b V ∧ Rg K' w0.heap.size gb bp sb cb { x with inT := true } { x with ad := some ⟨bb, 0, none⟩, tc := cc } := by
  have G := h.rg.gAt h.kp
  have S := h.rg.sAt h.kp
  have G1 := F1.same (by simp) G
  have S1 := S.quiet F1
  have d2 : w1.cell? ⟨gb, 2, none⟩ = some (.pointer (some ⟨vb, 0, none⟩)) := by rw [cell_of_row w1 gb 2 _ _ _ G1]; rfl
  have d1 : w1.cell? ⟨sb, 1, none⟩ = some (.bool false) := by rw [S1.c1, h.xi]
  have ngs : gb ≠ sb := blk_ne G S.box (by decide)
  have lg : gb < w.heap.size := (Array.getElem?_eq_some_iff.1 G).1
  have ls : sb < w.heap.size := (Array.getElem?_eq_some_iff.1 S.box).1
  have G2 := heap_setCell_same w1 gb 2 _ _ (.pointer (some ⟨cb, 0, none⟩)) G1
  have f2 := fr_set w1 gb 2 (.pointer (some ⟨cb, 0, none⟩))
  have S2 := f2.same (by simpa using ngs.symm) S1.box
  obtain ⟨w2, hw2⟩ : ∃ w2, w1.setCell ⟨gb, 2, none⟩ (.pointer (some ⟨cb, 0, none⟩)) = w2 := ⟨_, rfl⟩
  rw [hw2] at G2 f2 S2 ⊢
  have S3 := heap_setCell_same w2 sb 1 _ _ (.bool true) S2
  have f3 := fr_set w2 sb 1 (.bool true)
  have G3 := f3.same (by simpa using ngs) G2
  have hz1 : w1.frozen? ⟨gb, 2, none⟩ = false := frozen_of_row w1 gb 2 _ _ G1
  have hz2 : w2.frozen? ⟨sb, 1, none⟩ = false := frozen_of_row w2 sb 1 _ _ S2
  have hc1 : w2.cell? ⟨gb, 1, none⟩ = some (.pointer (some ⟨sb, 0, none⟩)) := by rw [cell_of_row w2 gb 1 _ _ _ G2]; rfl
  have F13 : Fr [gb, sb] w1 (w2.setCell ⟨sb, 1, none⟩ (.bool true)) := (f2.mono (fun i _ hm => by simp at hm; simp [hm])).trans (f3.mono (fun i _ hm => by simp at hm; simp [hm]))
  obtain ⟨w3, hw3⟩ : ∃ w3, w2.setCell ⟨sb, 1, none⟩ (.bool true) = w3 := ⟨_, rfl⟩
  rw [hw3] at S3 f3 G3 F13 ⊢
  have hc0 : w3.cell? ⟨gb, 0, none⟩ = some (.pointer (some ⟨bp, 0, none⟩)) := by rw [cell_of_row w3 gb 0 _ _ _ G3]; rfl
  have keep4 : ∀ {t : Nat} {cur : Array Value}, w1.heap[t]? = some (.cells cur 4) → w3.heap[t]? = some (.cells cur 4) := fun {t cur} ht => F13.same (fun hm => by
    rcases List.mem_cons.1 hm with e | e
    · exact blk_ne ht G1 (by decide) e
    · exact blk_ne ht S1.box (by decide) (by simpa using e)) ht
  have row3 : ∀ {z : Rf}, RfRow w1 z → RfRow w3 z := fun {z} hz => by
    rcases hz with e | ⟨e, tb, cur, h1, h2, h3⟩
    · exact Or.inl e
    · exact Or.inr ⟨e, tb, cur, h1, keep4 h2, h3⟩
  have A3 : RfAt w3 sb { x with inT := true } := ⟨by rw [S3]; rfl, row3 (z := x) S1.row, S1.n1⟩
  have C3 : RfAt w3 cb { x with ad := some ⟨bb, 0, none⟩, tc := cc } := ⟨F13.same (fun hm => by simp at hm; omega) R1.box, row3 R1.row, R1.n1⟩
  have sz := h.i.ab.fr.size
  obtain ⟨lgg, lss, lvv, lt, _⟩ := h.rg.lo
  obtain ⟨K', A', R'⟩ := h.rg.next (h.i.ab.quiet F1) F13 (fun g hm => by
      rcases List.mem_cons.1 hm with e | e
      · exact Or.inl e
      · exact Or.inr (Or.inl (by simpa using e))) (by rw [G3]; rfl) A3 C3 (by omega)
    (fun t1 t2 h1 _ h3 h4 => by
      obtain ⟨cur, hc⟩ := S.row.box h1 h3
      have h5 := (Array.getElem?_eq_some_iff.1 hc).1
      have h6 : bb = t2 := by injection h4 with h4; injection h4
      omega) rfl ⟨lss, by omega, lt, fun t _ h4 => by
      have h6 : bb = t := by injection h4 with h4; injection h4
      omega⟩
  exact ⟨hz1, d2, d1, hc1, hz2, hc0, K', (h.i.quiet F1).on A', R'⟩
set_option maxHeartbeats 4000000 in
set_option maxRecDepth 100000 in
theorem LvO.begin (h : LvO w0 w gb bp sb vb nb x y p s K m b V) (hs : s ≤ 1000) (op : Int) :
    Calls Tryz.prog 142 #[.pointer (some ⟨gb, 0, none⟩), .int .i64 op] w fun e w' => e = .returned (.bool true) ∧ Hid (Lv w0 w' gb bp nb p (s + 1)) := by
  have G := h.rg.gAt h.kp
  have S := h.rg.sAt h.kp
  have g0 : w.cell? ⟨gb, 0, none⟩ = some (.pointer (some ⟨bp, 0, none⟩)) := cell_of_row w gb 0 _ _ _ G
  have g1 : w.cell? ⟨gb, 1, none⟩ = some (.pointer (some ⟨sb, 0, none⟩)) := cell_of_row w gb 1 _ _ _ G
  have s1 : w.cell? ⟨sb, 1, none⟩ = some (.bool false) := by rw [S.c1, h.xi]
  have CX := rfCopy_any S
  go_enter Tryz.func142, Tryz.ntmps142
  go_upto_region 3 with (go_at_call 141; refine CX.mono ?_; rintro e w1 ⟨cb, bb, cc, rfl, hcb, hbb, R1, F1⟩; clear CX; obtain ⟨z1, d2, d1, c1, z2, c0, K', I', R'⟩ := h.begun hcb hbb R1 F1)
  go_upto_region 4 with fail
  have hsq := h.sq
  have BX := idl_beg I' (by omega)
  have HH := hidI (And.intro R' h)
  generalize (w1.setCell ⟨gb, 2, none⟩ (.pointer (some ⟨cb, 0, none⟩))).setCell ⟨sb, 1, none⟩ (.bool true) = w3 at BX c0 ⊢
  clear z1 d2 d1 c1 z2 R1 F1 I' R' h G S g0 g1 s1 hcb hbb
  go_wp2_with (go_at_call 30; refine BX.mono ?_; rintro e w4 ⟨rfl, b', m', P⟩; clear BX)
  go_ret
  refine ⟨rfl, hidI ?_⟩
  obtain ⟨I2, N2, p2, _, _⟩ := P.out
  obtain ⟨R', h⟩ := HH.out
  have hE := h.E
  have hs1 := N2.s1
  have hsy : Says b'.x.pages x V := by rw [N2.pages]; exact h.xs
  exact LvI.lv (sb := sb) (vb := cb) ⟨R', I2, rfl, h.xi, hsy.other rfl Iff.rfl rfl rfl, hsy.other rfl Iff.rfl rfl rfl, by rw [p2]; exact hE, by omega, h.nb4⟩
end
end Go.Proofs.YtopaeomjndblkaaGreat

namespace Go.Proofs.YtopaeomjndblkaaGreat
open Go.RowKit Go.Maps

section
variable {K : List (Nat × Obj)} {w0 w : World} {gb bp sb vb nb : Nat} {x y : Rf} {p s : Int} {m : Mst} {U V : Pages} {b : Bk} {H : List Ch}
/-- Behind the mark. -/
theorem LvA.unmark (h : LvA w0 w gb bp sb vb nb x y p s K m U b H V) :
    w.cell? ⟨sb, 1, none⟩ = some (.bool true) ∧ w.frozen? ⟨sb, 1, none⟩ = false ∧ (w.setCell ⟨sb, 1, none⟩ (.bool false)).cell? ⟨gb, 0, none⟩ = some (.pointer (some ⟨bp, 0, none⟩)) ∧
    ∃ K', In w0 (w.setCell ⟨sb, 1, none⟩ (.bool false)) bp K' nb m U b H V ∧ Rg K' w0.heap.size gb bp sb vb { x with inT := false } y := by
  have G := h.rg.gAt h.kp
  have S := h.rg.sAt h.kp
  have ngs : gb ≠ sb := blk_ne G S.box (by decide)
  have S1 := heap_setCell_same w sb 1 _ _ (.bool false) S.box
  have f := fr_set w sb 1 (.bool false)
  have hz := frozen_of_row w sb 1 _ _ S.box
  have hc : w.cell? ⟨sb, 1, none⟩ = some (.bool true) := by rw [S.c1, h.xi]
  obtain ⟨w1, hw1⟩ : ∃ w1, w.setCell ⟨sb, 1, none⟩ (.bool false) = w1 := ⟨_, rfl⟩
  rw [hw1] at S1 f ⊢
  have G1 := f.same (by simpa using ngs) G
  have row1 : RfRow w1 x := by
    rcases S.row with e | ⟨e, tb, cur, h1, h2, h3⟩
    · exact Or.inl e
    · exact Or.inr ⟨e, tb, cur, h1, f.same (fun hm => blk_ne h2 S.box (by decide) (by simpa using hm)) h2, h3⟩
  have A1 : RfAt w1 sb { x with inT := false } := ⟨by rw [S1]; rfl, row1, S.n1⟩
  obtain ⟨K', A', R'⟩ := h.rg.turnS h.i.ab f (fun g hm => Or.inl (by simpa using hm)) A1 rfl (fun t h1 h3 => Or.inl ⟨h1, h3⟩)
  exact ⟨hc, hz, by rw [cell_of_row w1 gb 0 _ _ _ G1]; rfl, K', h.i.on A', R'⟩
set_option maxHeartbeats 4000000 in
set_option maxRecDepth 100000 in
theorem LvI.commit (h : LvI w0 w gb bp sb vb nb x y p s K m U b H V) (hp : p ≤ 250000) :
    Calls Tryz.prog 142 #[.pointer (some ⟨gb, 0, none⟩), .int .i64 0] w fun e w' => e = .returned (.bool true) ∧ Hid (Lv w0 w' gb bp nb (p + 35) s) := by
  have G := h.rg.gAt h.kp
  have g1 : w.cell? ⟨gb, 1, none⟩ = some (.pointer (some ⟨sb, 0, none⟩)) := cell_of_row w gb 1 _ _ _ G
  obtain ⟨s1, z1, g0, K', I', R'⟩ := h.a.unmark
  have hE := I'.E
  have hph := h.ph
  have CX := in_com I' (by omega)
  have HH := hidI (And.intro R' (And.intro hE h))
  clear I' R' h G hE
  go_enter Tryz.func142, Tryz.ntmps142
  go_wp2_with (go_at_call 32; refine CX.mono ?_; rintro e w4 ⟨rfl, b', P⟩; clear CX)
  go_ret
  refine ⟨rfl, hidI ?_⟩
  obtain ⟨I2, N2, E2, _⟩ := P.out
  obtain ⟨R', hE, h⟩ := HH.out
  have hsy : Says b'.x.pages x V := by rw [N2.pages]; exact h.xs
  exact LvO.lv (sb := sb) (vb := vb) ⟨R', I2, rfl, h.yi, hsy.other rfl Iff.rfl rfl rfl, by omega, h.sq, h.nb4⟩
end
end Go.Proofs.YtopaeomjndblkaaGreat

namespace Go.Proofs.YtopaeomjndblkaaGreat
open Go.RowKit Go.Maps

section
variable {K : List (Nat × Obj)} {w0 w : World} {gb bp sb vb nb : Nat} {x y : Rf} {p s : Int} {m : Mst} {U V : Pages} {b : Bk} {H : List Ch}
theorem rg_undo (R : Rg K w0.heap.size gb bp sb vb x y) (A : Ab w0 w bp b K) {w1 : World} {cb bb cc : Nat} (hcb : w.heap.size ≤ cb) (hbb : w.heap.size ≤ bb) (R1 : RfAt w1 cb { y with ad := some ⟨bb, 0, none⟩, tc := cc }) (F1 : Fr [] w w1) :
    w1.cell? ⟨gb, 1, none⟩ = some (.pointer (some ⟨sb, 0, none⟩)) ∧ w1.frozen? ⟨gb, 1, none⟩ = false ∧ (w1.setCell ⟨gb, 1, none⟩ (.pointer (some ⟨cb, 0, none⟩))).cell? ⟨gb, 0, none⟩ = some (.pointer (some ⟨bp, 0, none⟩)) ∧
    ∃ K', Ab w0 (w1.setCell ⟨gb, 1, none⟩ (.pointer (some ⟨cb, 0, none⟩))) bp b K' ∧ Rg K' w0.heap.size gb bp cb vb { y with ad := some ⟨bb, 0, none⟩, tc := cc } y := by
  have kp : ∀ q ∈ K, w.heap[q.1]? = some q.2 := fun q hq => (A.kp q hq).1
  have G := R.gAt kp
  have T := R.vAt kp
  have G1 := F1.same (by simp) G
  have T1 := T.quiet F1
  have ngv : gb ≠ vb := blk_ne G T.box (by decide)
  have lg : gb < w.heap.size := (Array.getElem?_eq_some_iff.1 G).1
  have lv : vb < w.heap.size := (Array.getElem?_eq_some_iff.1 T.box).1
  have G2 := heap_setCell_same w1 gb 1 _ _ (.pointer (some ⟨cb, 0, none⟩)) G1
  have f2 := fr_set w1 gb 1 (.pointer (some ⟨cb, 0, none⟩))
  have z1 := frozen_of_row w1 gb 1 _ _ G1
  have d1 : w1.cell? ⟨gb, 1, none⟩ = some (.pointer (some ⟨sb, 0, none⟩)) := by rw [cell_of_row w1 gb 1 _ _ _ G1]; rfl
  obtain ⟨w2, hw2⟩ : ∃ w2, w1.setCell ⟨gb, 1, none⟩ (.pointer (some ⟨cb, 0, none⟩)) = w2 := ⟨_, rfl⟩
  rw [hw2] at G2 f2 ⊢
  have row2 : ∀ {z : Rf}, RfRow w1 z → RfRow w2 z := fun {z} hz => by
    rcases hz with e | ⟨e, tb, cur, h1, h2, h3⟩
    · exact Or.inl e
    · exact Or.inr ⟨e, tb, cur, h1, f2.same (fun hm => blk_ne h2 G1 (by decide) (by simpa using hm)) h2, h3⟩
  have C2 : RfAt w2 cb { y with ad := some ⟨bb, 0, none⟩, tc := cc } := ⟨f2.same (fun hm => by simp at hm; omega) R1.box, row2 R1.row, R1.n1⟩
  have T2 : RfAt w2 vb y := ⟨f2.same (fun hm => ngv (Eq.symm (by simpa using hm))) T1.box, row2 T1.row, T1.n1⟩
  have sz := A.fr.size
  obtain ⟨lgg, lss, lvv, _, lu⟩ := R.lo
  obtain ⟨K', A', R'⟩ := R.next (A.quiet F1) f2 (fun g hm => Or.inl (by simpa using hm)) (by rw [G2]; rfl) C2 T2 (by omega)
    (fun t1 t2 _ h2 h3 h4 => by
      obtain ⟨cur, hc⟩ := T.row.box h2 h4
      have h5 := (Array.getElem?_eq_some_iff.1 hc).1
      have h6 : bb = t1 := by injection h3 with h3; injection h3
      omega) rfl ⟨by omega, lvv, fun t _ h4 => by
      have h6 : bb = t := by injection h4 with h4; injection h4
      omega, lu⟩
  exact ⟨d1, z1, by rw [cell_of_row w2 gb 0 _ _ _ G2]; rfl, K', A', R'⟩
set_option maxHeartbeats 4000000 in
set_option maxRecDepth 100000 in
theorem LvA.abort (h : LvA w0 w gb bp sb vb nb x y p s K m U b H V) (hp : p ≤ 250000) :
    Calls Tryz.prog 142 #[.pointer (some ⟨gb, 0, none⟩), .int .i64 1] w fun e w' => e = .returned (.bool true) ∧ Hid (Lv w0 w' gb bp nb (p + 35) s) := by
  have G := h.rg.gAt h.kp
  have g1 : w.cell? ⟨gb, 1, none⟩ = some (.pointer (some ⟨sb, 0, none⟩)) := cell_of_row w gb 1 _ _ _ G
  obtain ⟨s1, z1, g0, K', I', R'⟩ := h.unmark
  have hph := h.ph
  have kp' : ∀ q ∈ K', (w.setCell ⟨sb, 1, none⟩ (.bool false)).heap[q.1]? = some q.2 := fun q hq => (I'.ab.kp q hq).1
  have g2 : (w.setCell ⟨sb, 1, none⟩ (.bool false)).cell? ⟨gb, 2, none⟩ = some (.pointer (some ⟨vb, 0, none⟩)) := cell_of_row _ gb 2 _ _ _ (R'.gAt kp')
  have CX := rfCopy_any (R'.vAt kp')
  clear G kp'
  go_enter Tryz.func142, Tryz.ntmps142
  go_upto_region 8 with fail
  generalize w.setCell ⟨sb, 1, none⟩ (.bool false) = w1 at g0 g2 CX I' R' ⊢
  go_upto_region 9 with (go_at_call 141; refine CX.mono ?_; rintro e w2 ⟨cb, bb, cc, rfl, hcb, hbb, R1, F1⟩; clear CX; obtain ⟨d1, z2, c0, K2, A2, R2⟩ := rg_undo R' I'.ab hcb hbb R1 F1; have I2 := (I'.quiet F1).on A2; clear I' A2)
  have hE := I2.E
  have AX := in_abo I2 (by omega) h.nb4
  have HH := hidI (And.intro R2 h)
  generalize w2.setCell ⟨gb, 1, none⟩ (.pointer (some ⟨cb, 0, none⟩)) = w3 at AX c0 ⊢
  clear d1 z2 R1 F1 R' R2 I2 h g0 g1 g2 s1 z1 hcb hbb hE
  go_wp2_with (go_at_call 33; refine AX.mono ?_; rintro e w4 ⟨rfl, b', P⟩; clear AX)
  go_ret
  refine ⟨rfl, hidI ?_⟩
  obtain ⟨I3, N3, E3, _⟩ := P.out
  obtain ⟨R', h⟩ := HH.out
  have hsy : Says b'.x.pages y U := by rw [N3.pages]; exact h.ys
  exact LvO.lv (sb := cb) (vb := vb) ⟨R', I3, h.yi, h.yi, hsy.other rfl Iff.rfl rfl rfl, by omega, h.sq, h.nb4⟩
end
end Go.Proofs.YtopaeomjndblkaaGreat

namespace Go.Proofs.YtopaeomjndblkaaGreat
open Go.RowKit Go.Maps

/-- The document's answers. -/
def aErr (x : Rf) : Int := if x.tl = 0 then 4 else 0
def aTk (x : Rf) (k : Int) : Bool := if x.tl = 0 then false else decide (0 ≤ k) && decide (k < (x.n : Int)) && x.tk k.toNat
def aRt (x : Rf) (k : Int) : Int := if k < 0 ∨ 7 < k then 0 else if x.tl = 0 then 0 else (x.r k.toNat : Int)
def aRe (x : Rf) (k : Int) : Int := if k < 0 ∨ 7 < k then 2 else aErr x
def aFr (x : Rf) : Int := if x.tl = 0 then 0 else (cntT x.tk x.n : Int)
theorem rfTaken_ans {w : World} {sb : Nat} {x : Rf} (h : RfAt w sb x) (k : Int) :
    Calls Tryz.prog 148 #[.pointer (some ⟨sb, 0, none⟩), .int .i64 k] w fun e w' => e = .returned (.tuple #[.bool (aTk x k), .int .i64 (aErr x)]) ∧ w' = w := by
  unfold aTk aErr
  by_cases ht : x.tl = 0
  · rw [if_pos ht, if_pos ht]
    exact rfTaken_not h ht k
  · rw [if_neg ht, if_neg ht]
    by_cases hk : k < 0 ∨ (x.n : Int) ≤ k
    · have e : (decide (0 ≤ k) && decide (k < (x.n : Int)) && x.tk k.toNat) = false := by
        rcases hk with hk | hk
        · rw [decide_eq_false (by omega)]; rfl
        · rw [decide_eq_false (show ¬ k < (x.n : Int) by omega)]; simp
      rw [e]
      exact rfTaken_out h ht k hk
    · obtain ⟨q, rfl⟩ : ∃ q : Nat, k = (q : Int) := ⟨k.toNat, by omega⟩
      rw [decide_eq_true (show (0 : Int) ≤ (q : Int) by omega), decide_eq_true (show (q : Int) < (x.n : Int) by omega), Int.toNat_natCast]
      exact rfTaken_in h ht q (by omega)
theorem rfRoot_ans {w : World} {sb : Nat} {x : Rf} (h : RfAt w sb x) (k : Int) :
    Calls Tryz.prog 149 #[.pointer (some ⟨sb, 0, none⟩), .int .i64 k] w fun e w' => e = .returned (.tuple #[.int .i64 (aRt x k), .int .i64 (aRe x k)]) ∧ w' = w := by
  unfold aRt aRe aErr
  by_cases hk : k < 0 ∨ 7 < k
  · rw [if_pos hk, if_pos hk]
    exact rfRoot_arg w sb k hk
  · rw [if_neg hk, if_neg hk]
    obtain ⟨q, rfl⟩ : ∃ q : Nat, k = (q : Int) := ⟨k.toNat, by omega⟩
    by_cases ht : x.tl = 0
    · rw [if_pos ht, if_pos ht]
      exact rfRoot_not h ht q (by omega)
    · rw [if_neg ht, if_neg ht, Int.toNat_natCast]
      exact rfRoot_yes h ht q (by omega)
theorem rfFree_ans {w : World} {sb : Nat} {x : Rf} (h : RfAt w sb x) :
    Calls Tryz.prog 150 #[.pointer (some ⟨sb, 0, none⟩)] w fun e w' => e = .returned (.tuple #[.int .i64 (aFr x), .int .i64 (aErr x)]) ∧ w' = w := by
  unfold aFr aErr
  by_cases ht : x.tl = 0
  · rw [if_pos ht, if_pos ht]
    exact rfFree_not h ht
  · rw [if_neg ht, if_neg ht]
    exact rfFree_yes h ht
section
variable {w0 w : World} {bp : Nat} {b : Bk} {K : List (Nat × Obj)} {x : Rf} {V : Pages} (h : Ab w0 w bp b K) (hv : Shows b.x V) (hp : 3 ≤ b.x.pages) (hp2 : b.x.pages ≤ 65536) (hs : Says b.x.pages x V)
include h hv hp hp2 hs
theorem sTaken_ans (k : Int) : Calls Tryz.prog 147 #[.pointer (some ⟨bp, 0, none⟩), .int .i64 k] w fun e w' => ∃ b', e = .returned (.tuple #[.bool (aTk x k), .int .i64 (aErr x)]) ∧ Hid (Rd w0 w' bp K b b') := by
  unfold aTk aErr
  by_cases ht : x.tl = 0
  · rw [if_pos ht, if_pos ht]
    exact rd_takenNo h hv (by omega) (by omega) (hs.no ht (by omega)) k
  · rw [if_neg ht, if_neg ht]
    have hd := (hs.yes ht).z.sp.hd
    have en := hs.1
    by_cases hk : k < 0 ∨ (x.n : Int) ≤ k
    · have e : (decide (0 ≤ k) && decide (k < (x.n : Int)) && x.tk k.toNat) = false := by
        rcases hk with hk | hk
        · rw [decide_eq_false (by omega)]; rfl
        · rw [decide_eq_false (show ¬ k < (x.n : Int) by omega)]; simp
      rw [e]
      exact rd_takenOut h hv hp (by omega) hd k (by omega)
    · obtain ⟨q, rfl⟩ : ∃ q : Nat, k = (q : Int) := ⟨k.toNat, by omega⟩
      rw [decide_eq_true (show (0 : Int) ≤ (q : Int) by omega), decide_eq_true (show (q : Int) < (x.n : Int) by omega), Int.toNat_natCast, ← hs.bits ht (k := q) (by omega)]
      exact rd_taken h hv hp (by omega) hd q (by omega)
theorem sFree_ans : Calls Tryz.prog 61 #[.pointer (some ⟨bp, 0, none⟩)] w fun e w' => ∃ b', e = .returned (.tuple #[.int .i64 (aFr x), .int .i64 (aErr x)]) ∧ Hid (Rd w0 w' bp K b b') := by
  unfold aFr aErr
  by_cases ht : x.tl = 0
  · rw [if_pos ht, if_pos ht]
    exact sfree_not h hv hp hp2 (hs.no ht (by omega))
  · rw [if_neg ht, if_neg ht, hs.1, ← cntT_eq (fun k hk => hs.bits ht hk)]
    exact sfree_any h hv hp hp2 (hs.yes ht).z.sp.hd
end
end Go.Proofs.YtopaeomjndblkaaGreat

namespace Go.Proofs.YtopaeomjndblkaaGreat
open Go.RowKit Go.Maps

section
variable {w0 w : World} {bp : Nat} {b : Bk} {K : List (Nat × Obj)} {x : Rf} {V : Pages} (h : Ab w0 w bp b K) (hv : Shows b.x V) (hp : 3 ≤ b.x.pages) (hp2 : b.x.pages ≤ 65536)
include h hv hp hp2
theorem rd_rootNot (hd : ¬ IsHd b.x.pages (V 0)) (k : Nat) (hk : k < 8) :
    Calls Tryz.prog 65 #[.pointer (some ⟨bp, 0, none⟩), .int .i64 (k : Int)] w fun e w' => ∃ b', e = .returned (.tuple #[.int .i64 0, .int .i64 4]) ∧ Hid (Rd w0 w' bp K b b') := by
  have MX := smade_any h (by omega)
  have HX := rd_headNo h hv (by omega) (by omega) hd
  clear h hv
  have k0 : (0 : Int) ≤ (k : Int) := by omega
  have k1 : (k : Int) < 8 := by omega
  have d0 : decide ((k : Int) < 0) = false := by simp
  go_enter Tryz.func65, Tryz.ntmps65
  go_wp2_with (first | (go_at_call 162; refine MX.mono ?_; rintro e wz ⟨rfl, hz⟩; rw [hz]; clear hz) | (go_at_call 151; refine HX.mono ?_; rintro e w1 ⟨b1, rfl, P⟩))
  go_ret2
  exact ⟨b1, rfl, P⟩
theorem sRoot_ans (hs : Says b.x.pages x V) (k : Int) : Calls Tryz.prog 65 #[.pointer (some ⟨bp, 0, none⟩), .int .i64 k] w fun e w' => ∃ b', e = .returned (.tuple #[.int .i64 (aRt x k), .int .i64 (aRe x k)]) ∧ Hid (Rd w0 w' bp K b b') := by
  unfold aRt aRe aErr
  by_cases hk : k < 0 ∨ 7 < k
  · rw [if_pos hk, if_pos hk]
    refine (sroot_arg h (by omega) k (by omega)).mono ?_
    rintro e w' ⟨he, rfl⟩
    exact ⟨b, he, hidI (Rd.refl h)⟩
  · rw [if_neg hk, if_neg hk]
    obtain ⟨q, rfl⟩ : ∃ q : Nat, k = (q : Int) := ⟨k.toNat, by omega⟩
    by_cases ht : x.tl = 0
    · rw [if_pos ht, if_pos ht]
      exact rd_rootNot h hv hp hp2 (hs.no ht (by omega)) q (by omega)
    · rw [if_neg ht, if_neg ht, Int.toNat_natCast, ← (hs.yes ht).rt q (by omega)]
      exact rd_root h hv (by omega) (by omega) (hs.yes ht).z.sp.hd q (by omega)
end
end Go.Proofs.YtopaeomjndblkaaGreat

namespace Go.Proofs.YtopaeomjndblkaaGreat
open Go.RowKit Go.Maps
section
variable {K : List (Nat × Obj)} {w0 w : World} {gb bp sb vb nb : Nat} {x y : Rf} {p s : Int} {m : Mst} {U V : Pages} {b : Bk} {H : List Ch}
theorem Rg.more {B : Nat} {K' : List (Nat × Obj)} (R : Rg K B gb bp sb vb x y) (hk : ∀ q ∈ K, q ∈ K') : Rg K' B gb bp sb vb x y :=
  { R with rig := hk _ R.rig, s := hk _ R.s, v := hk _ R.v, rs := R.rs.more hk, rw := R.rw.more hk }
/-- What like reads, in any world that the book's calls leave. -/
structure Lk (w0 w : World) (K : List (Nat × Obj)) (gb bp sb d : Nat) (x : Rf) (b b' : Bk) (V : Pages) (op pg wh : Int) : Prop where
  r : Rd w0 w bp K b b'
  g0 : w.cell? ⟨gb, 0, none⟩ = some (.pointer (some ⟨bp, 0, none⟩))
  g1 : w.cell? ⟨gb, 1, none⟩ = some (.pointer (some ⟨sb, 0, none⟩))
  d1 : w.cell? ⟨d, 1, none⟩ = some (.int .i64 pg)
  d2 : w.cell? ⟨d, 2, none⟩ = some (.int .i64 wh)
  xa : RfAt w sb x
  hv : Shows b'.x V
  hp : 3 ≤ b'.x.pages
  hp2 : b'.x.pages ≤ 65536
  hs : Says b'.x.pages x V
theorem lk_of {d : Nat} {op pg wh : Int} (R : Rg K w0.heap.size gb bp sb vb x y) (hd : (d, Obj.cells #[.int .i64 op, .int .i64 pg, .int .i64 wh] 119) ∈ K) (hv : Shows b.x V) (hp : 3 ≤ b.x.pages) (hp2 : b.x.pages ≤ 65536) (hs : Says b.x.pages x V) {w1 : World} {b' : Bk} (r : Rd w0 w1 bp K b b') : Lk w0 w1 K gb bp sb d x b b' V op pg wh := by
  have kp : ∀ q ∈ K, w1.heap[q.1]? = some q.2 := fun q hq => (r.ab.kp q hq).1
  exact ⟨r, cell_of_row w1 gb 0 _ _ _ (R.gAt kp), cell_of_row w1 gb 1 _ _ _ (R.gAt kp), cell_of_row w1 d 1 _ _ _ (kp _ hd), cell_of_row w1 d 2 _ _ _ (kp _ hd), R.sAt kp, r.sh V hv, by rw [r.tr.pages]; exact hp, by rw [r.tr.pages]; exact hp2, by rw [r.tr.pages]; exact hs⟩
theorem lk_eq {d : Nat} {op pg wh : Int} {b' : Bk} {w1 w2 : World} (h : w2 = w1) (L : Hid (Lk w0 w1 K gb bp sb d x b b' V op pg wh)) : Hid (Lk w0 w2 K gb bp sb d x b b' V op pg wh) := h ▸ L
set_option maxHeartbeats 8000000 in
set_option maxRecDepth 100000 in
theorem like_any (R : Rg K w0.heap.size gb bp sb vb x y) (A : Ab w0 w bp b K) (hv : Shows b.x V) (hp : 3 ≤ b.x.pages) (hp2 : b.x.pages ≤ 65536) (hs : Says b.x.pages x V) (op pg wh : Int) :
    Calls Tryz.prog 57 #[.pointer (some ⟨gb, 0, none⟩), .agg #[.int .i64 op, .int .i64 pg, .int .i64 wh]] w fun e w' => e = .returned (.bool true) ∧ ∃ b', Hid (Rd w0 w' bp K b b') := by
  obtain ⟨d, hd⟩ : ∃ d, w.heap.size = d := ⟨_, rfl⟩
  have D0 : (w.alloc (Obj.cells #[.int .i64 op, .int .i64 pg, .int .i64 wh] 119)).heap[d]? = some (Obj.cells #[.int .i64 op, .int .i64 pg, .int .i64 wh] 119) := by rw [← hd]; exact heap_alloc_new w _
  have A0 : Ab w0 (w.alloc (Obj.cells #[.int .i64 op, .int .i64 pg, .int .i64 wh] 119)) bp b K := A.quiet ((Fr.refl _ _).alloc _)
  have L0 := hidI (lk_of (R.more (K' := (d, Obj.cells #[.int .i64 op, .int .i64 pg, .int .i64 wh] 119) :: K) (fun q hq => List.mem_cons_of_mem _ hq)) List.mem_cons_self hv hp hp2 hs (Rd.refl (A0.add D0 (A0.bk.away D0 (by decide) (by decide) (by decide) (by decide)).2.1)))
  have LK : ∀ {w1 : World} {b' : Bk}, Hid (Rd w0 w1 bp ((d, Obj.cells #[.int .i64 op, .int .i64 pg, .int .i64 wh] 119) :: K) b b') → Hid (Lk w0 w1 ((d, Obj.cells #[.int .i64 op, .int .i64 pg, .int .i64 wh] 119) :: K) gb bp sb d x b b' V op pg wh) := fun r => hidI (lk_of (R.more (fun q hq => List.mem_cons_of_mem _ hq)) List.mem_cons_self hv hp hp2 hs r.out)
  clear A A0 D0 hv hp hp2 hs R
  go_enter Tryz.func57, Tryz.ntmps57
  go_upto_region 1 with fail
  generalize w.alloc (Obj.cells #[.int .i64 op, .int .i64 pg, .int .i64 wh] 119) = wa at L0 ⊢
  have g0 := L0.out.g0
  have g1 := L0.out.g1
  have d1 := L0.out.d1
  have d2 := L0.out.d2
  go_wp2_with fail
  have M1 := LK (hidI (L0.out.r.quiet (Fr.refl [] _).drew))
  clear L0
  go_region_held3 (fun w' => w'.cell? ⟨gb, 0, none⟩ = some (.pointer (some ⟨bp, 0, none⟩)) ∧ w'.cell? ⟨d, 1, none⟩ = some (.int .i64 pg)) (exact ⟨by assumption, by assumption⟩) ((first
    | (go_at_call 147; refine (sTaken_ans M1.out.r.ab M1.out.hv M1.out.hp M1.out.hp2 M1.out.hs pg).mono ?_; rintro e w11 ⟨b1, rfl, P1⟩; have L1 := LK (hidI (M1.out.r.trans P1.out)); have hg1 := L1.out.g0; have hd1 := L1.out.d1)))
  clear M1 P1 hg1 hd1 g0 g1 d1 d2
  have g1 := L1.out.g1
  have d1 := L1.out.d1
  go_wp2_with fail
  have M2 := LK (hidI (L1.out.r.quiet (Fr.refl [] _).drew))
  clear L1
  go_region_held3 (fun w' => w'.cell? ⟨gb, 1, none⟩ = some (.pointer (some ⟨sb, 0, none⟩)) ∧ w'.cell? ⟨d, 1, none⟩ = some (.int .i64 pg)) (exact ⟨by assumption, by assumption⟩) ((first
    | (go_at_call 148; refine (rfTaken_ans M2.out.xa pg).mono ?_; rintro e w21 ⟨rfl, hz⟩; have L2 := lk_eq hz M2; clear hz; have hg2 := L2.out.g1; have hd2 := L2.out.d1)))
  clear M2 hg2 hd2 g1 d1
  have g0 := L2.out.g0
  have d2 := L2.out.d2
  go_wp2_with fail
  have M3 := LK (hidI (L2.out.r.quiet (Fr.refl [] _).drew))
  clear L2
  go_region_held3 (fun w' => w'.cell? ⟨gb, 0, none⟩ = some (.pointer (some ⟨bp, 0, none⟩)) ∧ w'.cell? ⟨d, 2, none⟩ = some (.int .i64 wh)) (exact ⟨by assumption, by assumption⟩) ((first
    | (go_at_call 65; refine (sRoot_ans M3.out.r.ab M3.out.hv M3.out.hp M3.out.hp2 M3.out.hs wh).mono ?_; rintro e w31 ⟨b3, rfl, P3⟩; have L3 := LK (hidI (M3.out.r.trans P3.out)); have hg3 := L3.out.g0; have hd3 := L3.out.d2)))
  clear M3 P3 hg3 hd3 g0 d2
  have g1 := L3.out.g1
  have d2 := L3.out.d2
  go_wp2_with fail
  have M4 := LK (hidI (L3.out.r.quiet (Fr.refl [] _).drew))
  clear L3
  go_region_held3 (fun w' => w'.cell? ⟨gb, 1, none⟩ = some (.pointer (some ⟨sb, 0, none⟩)) ∧ w'.cell? ⟨d, 2, none⟩ = some (.int .i64 wh)) (exact ⟨by assumption, by assumption⟩) ((first
    | (go_at_call 149; refine (rfRoot_ans M4.out.xa wh).mono ?_; rintro e w41 ⟨rfl, hz⟩; have L4 := lk_eq hz M4; clear hz; have hg4 := L4.out.g1; have hd4 := L4.out.d2)))
  clear M4 hg4 hd4 g1 d2
  have g0 := L4.out.g0
  go_wp2_with (first
    | (go_at_call 61; refine (sFree_ans L4.out.r.ab L4.out.hv L4.out.hp L4.out.hp2 L4.out.hs).mono ?_; rintro e w5 ⟨b5, rfl, P5⟩; have L5 := LK (hidI (L4.out.r.trans P5.out)); clear L4 P5 g0; have g1 := L5.out.g1)
    | (go_at_call 150; refine (rfFree_ans L5.out.xa).mono ?_; rintro e w6 ⟨rfl, hz⟩; have L6 := lk_eq hz L5; clear hz L5))
  go_ret
  exact ⟨rfl, b5, hidI (L6.out.r.on (L6.out.r.ab.less (fun q hq => List.mem_cons_of_mem _ hq)))⟩
end
end Go.Proofs.YtopaeomjndblkaaGreat

