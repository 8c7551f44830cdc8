/-
  ChainNil's law.
-/
import Derived.Test.YthajipigppndgaaGreatZDM
import Derived.Deep.RegionHeld3
namespace Go.Proofs.YthajipigppndgaaGreat
open Go.RowKit Go.Maps
theorem noCh (x : Int) (hx : x ≠ 0) : ChW 60 (fmtV 60 Z0) x [] false := .inr ⟨hx, .bad _ _ _ (fun q _ hk => by
  have h1 := fmt60.bits q hk.hi
  rw [hk.mk'] at h1
  have h2 : q < 2 := of_decide_eq_true h1.symm
  have h3 := hk.lo
  have h4 : sheetOwn 60 = 2 := rfl
  omega)⟩
theorem op_makeN {o : Oper} {a : Act} {w : World} {K : Act → World → Prop} {Q : Exit → Act → World → Prop} (x y : Operand) (ho : o.op = .makeSlice 26 x y) (n : Nat) (hn : n ≤ 16777216) (hx : a.eval x = .int .i64 (n : Int)) (hy : a.eval y = .int .i64 (n : Int))
    (h : ∀ w' g, Fr [] w w' → K (a.put o.dst (.slice (some ⟨g, 0, none⟩) n n)) w') : Oper.wp Tryz.prog o a w K Q := by
  obtain ⟨i, hi, hz, hs, hb⟩ := info5'
  have hrun := run_makeSlice (P := Tryz.prog) w 26 5 i (.int .u8 0) Tryz.underlying26 hi hz .i64 .i64 (n : Int) (n : Int) (by omega) (by omega) (by rw [hs]; simpa using hn) (by rw [hb]; omega) (by omega)
  rw [Int.toNat_natCast] at hrun
  unfold Oper.wp execOp
  simp only [ho, hx, hy, hrun, Sem.run_bind, Sem.run_pure, Result.andThen]
  exact h _ _ ((Fr.refl _ _).alloc _)
def badL (first : Int) : List Int := [1, -1, 60, 2, 3, first]
def badC (first : Int) : Array Value := #[.int .i64 1, .int .i64 (-1), .int .i64 60, .int .i64 2, .int .i64 3, .int .i64 first]
theorem badC_at (first : Int) {i : Nat} (hi : i < 6) : (badC first)[i]? = some (.int .i64 ((badL first).getD i 0)) := by
  rcases (by omega : i = 0 ∨ i = 1 ∨ i = 2 ∨ i = 3 ∨ i = 4 ∨ i = 5) with rfl | rfl | rfl | rfl | rfl | rfl <;> rfl
structure N2 (w0 w : World) (bd rg bp : Nat) (first : Int) (v1 v2 : Value) (m : Mst) (U : Pages) (b : Bk) (H : List Ch) : Prop where
  i : In w0 w bp [(bd, .cells (badC first) 3), rigK rg bp v1 v2] 124 m U b H (fmtV 60 Z0)
  pages : b.x.pages = 60
  ph : phN b H ≤ 800
section
variable {w0 w w' : World} {bd rg bp : Nat} {first : Int} {v1 v2 : Value} {m : Mst} {U : Pages} {b b' : Bk} {H : List Ch}
theorem N2.quiet (h : N2 w0 w bd rg bp first v1 v2 m U b H) (f : Fr [] w w') : N2 w0 w' bd rg bp first v1 v2 m U b H := ⟨h.i.quiet f, h.pages, h.ph⟩
theorem N2.c0 (h : N2 w0 w bd rg bp first v1 v2 m U b H) : w.cell? ⟨rg, 0, none⟩ = some (.pointer (some ⟨bp, 0, none⟩)) := cell_of_row w rg 0 _ _ _ (h.i.ab.kp (rigK rg bp v1 v2) (by simp)).1
theorem N2.cx (h : N2 w0 w bd rg bp first v1 v2 m U b H) {i : Nat} (hi : i < 6) : w.cell? ⟨bd, i, none⟩ = some (.int .i64 ((badL first).getD i 0)) := (cell_of_row w bd i _ _ _ (h.i.ab.kp (bd, .cells (badC first) 3) (by simp)).1).trans (badC_at first hi)
theorem N2.hd (h : N2 w0 w bd rg bp first v1 v2 m U b H) : IsHd b.x.pages (fmtV 60 Z0 0) := by rw [h.pages]; exact fmt60.sp.hd
theorem N2.rd (h : N2 w0 w bd rg bp first v1 v2 m U b H) (r : Rd w0 w' bp [(bd, .cells (badC first) 3), rigK rg bp v1 v2] b b') : N2 w0 w' bd rg bp first v1 v2 m U b' H :=
  ⟨h.i.rd r, r.tr.pages.trans h.pages, by have := h.ph; unfold phN at this ⊢; rw [r.E]; exact this⟩
theorem n2_get (h : N2 w0 w bd rg bp first v1 v2 m U b H) {x : Int} (hx : x ≠ 0) : Calls Tryz.prog 13 #[.pointer (some ⟨bp, 0, none⟩), .int .i64 x] w fun e w' => e = .returned (.tuple #[.slice none 0 0, .int .i64 4]) ∧ ∃ b', Hid (N2 w0 w' bd rg bp first v1 v2 m U b' H) := by
  refine (nget_any h.i.ab h.i.tx.sh (by rw [h.pages]; omega) (by rw [h.pages]; omega) h.hd x (l := []) (t := false) (by rw [h.pages]; exact noCh x hx)).mono ?_
  rintro e w' ⟨v, ev, rfl, KR, T⟩
  obtain ⟨⟨b', r⟩, dj, T2⟩ := T.out
  rcases T2 with ⟨-, rfl, rfl, rfl⟩ | ⟨h1, -⟩
  · exact ⟨rfl, b', hidI (h.rd r)⟩
  · cases h1
theorem n2_blocks (h : N2 w0 w bd rg bp first v1 v2 m U b H) {x : Int} (hx : x ≠ 0) : Calls Tryz.prog 14 #[.pointer (some ⟨bp, 0, none⟩), .int .i64 x] w fun e w' => e = .returned (.tuple #[.slice none 0 0, .int .i64 4]) ∧ ∃ b', Hid (N2 w0 w' bd rg bp first v1 v2 m U b' H) := by
  refine (nblocks_any h.i.ab h.i.tx.sh (by rw [h.pages]; omega) (by rw [h.pages]; omega) h.hd x (l := []) (t := false) (by rw [h.pages]; exact noCh x hx)).mono ?_
  rintro e w' ⟨v, ev, rfl, KR, T⟩
  obtain ⟨⟨b', r⟩, dj, T2⟩ := T.out
  rcases T2 with ⟨-, rfl, rfl, rfl⟩ | ⟨h1, -⟩
  · exact ⟨rfl, b', hidI (h.rd r)⟩
  · cases h1
theorem n2_drop (h : N2 w0 w bd rg bp first v1 v2 m U b H) {x : Int} (hx : x ≠ 0) : Calls Tryz.prog 15 #[.pointer (some ⟨bp, 0, none⟩), .int .i64 x] w fun e w' => e = .returned (.int .i64 4) ∧ ∃ b', Hid (N2 w0 w' bd rg bp first v1 v2 m U b' H) := by
  refine (ndrop_any h.i (by rw [h.pages]; exact fmt60.sp) x (l := []) (t := false) (by rw [h.pages]; exact noCh x hx) (by simp) (by have := h.ph; simp; omega)).mono ?_
  rintro e w' ⟨r, rfl, D⟩
  rcases D.out with ⟨-, rfl, b', D2⟩ | ⟨h1, -⟩ | ⟨h1, -⟩
  · exact ⟨rfl, b', hidI ⟨D2.i, D2.tr.pages.trans h.pages, by have := D2.ph; have := h.ph; omega⟩⟩
  · cases h1
  · cases h1
end
set_option maxHeartbeats 4000000 in
set_option maxRecDepth 100000 in
theorem chainNil_law (w : World) (first : Int) (_h : (Lit.int .i64 first).wf = true) : Calls Tryz.prog 4 #[.int .i64 first] w fun e w' => e = .returned (.bool true) ∧ Fr [] w w' := by
  go_enter Tryz.func4, Tryz.ntmps4
  go_wp2_with (go_at_call 9; refine (nawake_ok w).mono ?_; rintro e w1 ⟨rfl, f1⟩)
  have F0 : Fr [] w1 ((w1.alloc (.cells #[.pointer none, .pointer none, .pointer none, .pointer none] 38)).alloc (.cells #[.pointer none, .pointer (some ⟨w1.heap.size, 0, none⟩)] 32)) := ((Fr.refl [] w1).alloc _).alloc _
  have z1 := ((Fr.refl [] (w1.alloc (.cells #[.pointer none, .pointer none, .pointer none, .pointer none] 38))).alloc (.cells #[.pointer none, .pointer (some ⟨w1.heap.size, 0, none⟩)] 32)).same (by simp) (heap_alloc_new w1 (.cells #[.pointer none, .pointer none, .pointer none, .pointer none] 38))
  have z2 := heap_alloc_new (w1.alloc (.cells #[.pointer none, .pointer none, .pointer none, .pointer none] 38)) (.cells #[.pointer none, .pointer (some ⟨w1.heap.size, 0, none⟩)] 32)
  rw [World.size_alloc] at z2
  obtain ⟨zb, hzb⟩ : ∃ zb, w1.heap.size = zb := ⟨_, rfl⟩
  rw [hzb] at F0 z1 z2 ⊢
  obtain ⟨W0, hW0⟩ : ∃ W0, (w1.alloc (.cells #[.pointer none, .pointer none, .pointer none, .pointer none] 38)).alloc (.cells #[.pointer none, .pointer (some ⟨zb, 0, none⟩)] 32) = W0 := ⟨_, rfl⟩
  rw [hW0] at F0 z1 z2 ⊢
  have HF := hidI (f1.trans F0)
  have BK := hidI (fun (W : World) (f : Fr [] W0 W) (i : Nat) (hi : i < 2) => (show W.cell? ⟨zb + 1, i, none⟩ = some (if i = 0 then Value.pointer none else .pointer (some ⟨zb, 0, none⟩)) ∧ NoBook W (if i = 0 then Value.pointer none else .pointer (some ⟨zb, 0, none⟩)) from by
    have y1 := f.same (by simp) z1
    have y2 := f.same (by simp) z2
    rcases (by omega : i = 0 ∨ i = 1) with rfl | rfl
    · exact ⟨cell_of_row W (zb + 1) 0 _ _ _ y2, .inl rfl⟩
    · exact ⟨cell_of_row W (zb + 1) 1 _ _ _ y2, .inr ⟨zb, rfl, cell_of_row W zb 0 _ _ _ y1⟩⟩))
  clear z1 z2 hW0 F0 f1 hzb
  go_loopw [4, 5, 6, 7, 8, 9, 10] (fun s4 s5 s6 s7 s8 s9 s10 wr => ∃ i : Nat, s4 = .int .i64 (i : Int) ∧ i ≤ 2 ∧ Hid (Fr [] W0 wr)) (fun s4 _ _ _ _ _ _ _ => 2 - (intOf s4).toNat)
  case atStart => exact ⟨0, rfl, by omega, hidI (Fr.refl _ _)⟩
  case round =>
    obtain ⟨i, rfl, hi, FR⟩ := hrel
    by_cases hi2 : i < 2
    · have hi2' : (i : Int) < 2 := by omega
      have CF := hidI (fun (W : World) (f : Fr [] wr W) => BK.out W (FR.out.trans f) i hi2)
      obtain ⟨v, hv⟩ : ∃ v, (if i = 0 then Value.pointer none else .pointer (some ⟨zb, 0, none⟩)) = v := ⟨_, rfl⟩
      rw [hv] at CF
      clear hv BK
      have c0 := (CF.out wr (Fr.refl _ _)).1
      have f1 : Fr [] wr (wr.alloc (.cells #[.int .u8 1] 5)) := (Fr.refl [] wr).alloc _
      have c1 := (CF.out _ f1).1
      have PX := nput_no _ v (CF.out _ f1).2
      have F1 := hidI f1
      clear f1
      go_wp2_with (first
        | (go_at_call 12
           refine (PX _ _ _).mono ?_
           rintro e wz ⟨rfl, hz⟩
           rw [hz]
           clear hz PX)
        | (go_at_call 13
           refine (nget_no _ v (CF.out _ F1.out).2 first).mono ?_
           rintro e w3 ⟨rfl, f3⟩
           have F3 := hidI (F1.out.trans f3)
           have c3 := (CF.out _ F3.out).1
           clear c0 c1 f3 F1)
        | (go_at_call 14
           refine (nblocks_no _ v (CF.out _ F3.out).2 first).mono ?_
           rintro e w4 ⟨rfl, f4⟩
           have F4 := hidI (F3.out.trans f4)
           have c4 := (CF.out _ F4.out).1
           clear c3 f4 F3)
        | (go_at_call 15
           refine (ndrop_no _ v (CF.out _ F4.out).2 first).mono ?_
           rintro e wz ⟨rfl, hz⟩
           rw [hz]
           clear hz))
      exact ⟨⟨i + 1, by go_num, by omega, hidI (FR.out.trans F4.out)⟩, by simp [intOf]; omega⟩
    · obtain rfl : i = 2 := by omega
      clear BK
      obtain ⟨wq, hwq⟩ : ∃ wq, wq = wr := ⟨_, rfl⟩
      subst hwq
      have BX := nbegin_ok wq
      go_upto_region 15 with (first
        | (go_at_call 8
           refine BX.mono ?_
           rintro e w3 ⟨rg, rfl, P3⟩
           clear BX))
      obtain ⟨hrg, bp, b, m, R⟩ := P3.out
      obtain ⟨v1, v2, U, I3⟩ := R.i
      have c3 : w3.cell? ⟨rg, 0, none⟩ = some (.pointer (some ⟨bp, 0, none⟩)) := cell_of_row w3 rg 0 _ _ _ (I3.ab.kp _ (List.mem_cons_self ..)).1
      have T6 := ab_pages I3.ab
      rw [R.pages] at T6
      have f4 : Fr [] w3 (w3.alloc (.cells #[.int .i64 1, .int .i64 (-1), .int .i64 60, .int .i64 2, .int .i64 3, .int .i64 first] 3)) := (Fr.refl [] w3).alloc _
      have z4 := heap_alloc_new w3 (.cells #[.int .i64 1, .int .i64 (-1), .int .i64 60, .int .i64 2, .int .i64 3, .int .i64 first] 3)
      have I4 := I3.quiet f4
      have I4' := I4.on (I4.ab.add z4 (I3.ab.fresh (Nat.le_refl _)).2.1)
      obtain ⟨bd, hbd⟩ : ∃ bd, w3.heap.size = bd := ⟨_, rfl⟩
      rw [hbd] at I4'
      have HR := hidI (show N2 wq _ bd rg bp first v1 v2 m U b [] from ⟨I4', R.pages, R.ph⟩)
      clear I3 I4 I4' z4 f4 P3 R hrg
      go_upto_region 16 with (go_at_call 16; refine T6.mono ?_; rintro e wz ⟨rfl, hz⟩; rw [hz]; clear hz)
      obtain ⟨w4, hw4⟩ : ∃ w4, w3.alloc (.cells #[.int .i64 1, .int .i64 (-1), .int .i64 60, .int .i64 2, .int .i64 3, .int .i64 first] 3) = w4 := ⟨_, rfl⟩
      rw [hw4] at HR ⊢
      clear hw4 hbd c3 T6
      go_wp2_with fail
      go_loopw [14, 15, 16, 17, 18] (fun s14 s15 s16 s17 s18 wx => ∃ i : Nat, s14 = .int .i64 (i : Int) ∧ i ≤ 6 ∧ Hid (∃ b' H', N2 wq wx bd rg bp first v1 v2 m U b' H')) (fun s14 _ _ _ _ _ => 6 - (intOf s14).toNat)
      case atStart => exact ⟨0, rfl, by omega, hidI ⟨b, [], HR.out⟩⟩
      case round =>
        obtain ⟨i, rfl, hi6, X⟩ := hrel
        obtain ⟨b5, H5, N5⟩ := X.out
        by_cases hil : i < 6
        · have hil' : (i : Int) < 6 := by omega
          have cx := N5.cx hil
          have c0 := N5.c0
          obtain ⟨x, hx⟩ : ∃ x, (badL first).getD i 0 = x := ⟨_, rfl⟩
          rw [hx] at cx
          have CX := hidI (fun (W : World) (b' : Bk) (H' : List Ch) (h : N2 wq W bd rg bp first v1 v2 m U b' H') => (show W.cell? ⟨bd, i, none⟩ = some (.int .i64 x) from by rw [← hx]; exact h.cx hil))
          have HN5 := hidI N5
          clear hx N5 X
          by_cases h0 : x = 0
          · subst h0
            go_wp2_with fail
            exact ⟨⟨i + 1, by go_num, by omega, hidI ⟨b5, H5, HN5.out⟩⟩, by simp [intOf]; omega⟩
          · have hx0 : (x == 0) = false := by rw [beq_eq_false_iff_ne]; exact h0
            go_upto_region 20 with fail
            go_cut [15, 16] from 100 to 111 (fun s15 s16 wy => s16 = .int .i64 4 ∧ Hid (∃ b' H', N2 wq wy bd rg bp first v1 v2 m U b' H'))
            case first => as_aux_lemma =>
              have N6 := HN5.out.quiet (Fr.refl [] wr).drew
              have GX := n2_get N6 h0
              clear N6
              go_region_held3 (fun w' => w'.cell? ⟨rg, 0, none⟩ = some (.pointer (some ⟨bp, 0, none⟩)) ∧ w'.cell? ⟨bd, i, none⟩ = some (.int .i64 x)) (exact ⟨by assumption, by assumption⟩) ((first
                | (go_at_call 13; refine GX.mono ?_; rintro e w5 ⟨rfl, b6, N7⟩; have hg5 := N7.out.c0; have hd5 := CX.out _ _ _ N7.out)))
              go_wp2_with fail
              go_meet
              exact ⟨rfl, hidI ⟨b6, H5, N7.out⟩⟩
            case rest =>
              obtain ⟨rfl, Y⟩ := hcut
              obtain ⟨b6, H6, N6'⟩ : ∃ b6 H6, Hid (N2 wq wc bd rg bp first v1 v2 m U b6 H6) := by
                obtain ⟨b6, H6, h⟩ := Y.out
                exact ⟨b6, H6, hidI h⟩
              clear cx c0 Y
              have cx := CX.out _ _ _ N6'.out
              have c0 := N6'.out.c0
              go_upto_region 21 with fail
              go_cut [17, 18] from 112 to 123 (fun s17 s18 wy => s18 = .int .i64 4 ∧ Hid (∃ b' H', N2 wq wy bd rg bp first v1 v2 m U b' H'))
              case first => as_aux_lemma =>
                have N7 := N6'.out.quiet (Fr.refl [] wc).drew
                have KX := n2_blocks N7 h0
                clear N7
                go_region_held3 (fun w' => w'.cell? ⟨rg, 0, none⟩ = some (.pointer (some ⟨bp, 0, none⟩)) ∧ w'.cell? ⟨bd, i, none⟩ = some (.int .i64 x)) (exact ⟨by assumption, by assumption⟩) ((first
                  | (go_at_call 14; refine KX.mono ?_; rintro e w6 ⟨rfl, b7, N8⟩; have hg6 := N8.out.c0; have hd6 := CX.out _ _ _ N8.out)))
                go_wp2_with fail
                go_meet
                exact ⟨rfl, hidI ⟨b7, H6, N8.out⟩⟩
              case rest =>
                obtain ⟨rfl, Y⟩ := hcut
                obtain ⟨b8, H8, N8'⟩ : ∃ b8 H8, Hid (N2 wq wc bd rg bp first v1 v2 m U b8 H8) := by
                  obtain ⟨b8, H8, h⟩ := Y.out
                  exact ⟨b8, H8, hidI h⟩
                clear cx c0 Y N6'
                have cx := CX.out _ _ _ N8'.out
                have c0 := N8'.out.c0
                go_upto_region 22 with fail
                go_cut [141] from 124 to 141 (fun s141 wy => s141 = .bool false ∧ Hid (∃ b' H', N2 wq wy bd rg bp first v1 v2 m U b' H'))
                case first => as_aux_lemma =>
                  have N9 := N8'.out.quiet (Fr.refl [] wc).drew
                  have DX := n2_drop N9 h0
                  clear N9
                  go_region_held3 (fun w' => w'.cell? ⟨rg, 0, none⟩ = some (.pointer (some ⟨bp, 0, none⟩)) ∧ w'.cell? ⟨bd, i, none⟩ = some (.int .i64 x)) (exact ⟨by assumption, by assumption⟩) ((first
                    | (go_at_call 15; refine DX.mono ?_; rintro e w8 ⟨rfl, b9, N10⟩; have hg8 := N10.out.c0; have hd8 := CX.out _ _ _ N10.out)))
                  go_wp2_with fail
                  go_meet
                  exact ⟨rfl, hidI ⟨b9, H8, N10.out⟩⟩
                case rest =>
                  obtain ⟨rfl, Y⟩ := hcut
                  clear cx c0 N8'
                  go_wp2_with fail
                  exact ⟨⟨i + 1, by go_num, by omega, Y⟩, by simp [intOf]; omega⟩
        · obtain rfl : i = 6 := by omega
          have hil' : ¬ ((6 : Int) < 6) := by omega
          have c0 := N5.c0
          have CM := in_com N5.i (by have := N5.ph; omega)
          have HP := hidI N5.pages
          clear X N5 HR
          go_upto_region 26 with (first
            | (go_at_call 17
               refine CM.mono ?_
               rintro e w8 ⟨rfl, b8, P8⟩
               have hpg8 : 0 < b8.x.pages := by rw [P8.out.2.1.pages, HP.out]; omega
               have hst8 : b8.t.st = 0 := by rw [P8.out.1.idle.t]; rfl
               have CF := hidI (fun (W : World) (f : Fr [] w8 W) => (show W.cell? ⟨rg, 0, none⟩ = some (.pointer (some ⟨bp, 0, none⟩)) ∧ Ab wq W bp b8 [(bd, .cells (badC first) 3), rigK rg bp v1 v2] from ⟨cell_of_row W rg 0 _ _ _ (f.same (by simp) (P8.out.1.ab.kp (rigK rg bp v1 v2) (by simp)).1), P8.out.1.ab.quiet f⟩))
               have k8 := (CF.out w8 (Fr.refl _ _)).1
               clear CM c0))
          go_cut [19, 20] from 148 to 156 (fun s19 s20 wy => s20 = .int .i64 7 ∧ Fr [] w8 wy)
          case first => as_aux_lemma =>
            have fd : Fr [] w8 w8.drew := (Fr.refl [] w8).drew
            go_region_held3 (fun w' => w'.cell? ⟨rg, 0, none⟩ = some (.pointer (some ⟨bp, 0, none⟩))) (first | exact hk | exact k8) ((first
              | (refine op_makeN _ _ rfl 65537 (by omega) rfl rfl ?_; intro w9 g9 f9; have F9 := fd.trans f9; have hk := (CF.out w9 F9).1)
              | (go_at_call 12; refine (nput_out (CF.out _ F9).2 hpg8 hst8 _ _ _).mono ?_; rintro e wz ⟨rfl, hz⟩; rw [hz]; clear hz)))
            all_goals go_wp2_with fail
            all_goals go_meet
            all_goals exact ⟨rfl, F9⟩
          case rest =>
            obtain ⟨rfl, f9⟩ := hcut
            have k9 := (CF.out _ f9).1
            have DX := ndrop_out (CF.out _ f9).2 hpg8 hst8 first
            clear k8
            go_wp2_with (first
              | (go_at_call 15; refine DX.mono ?_; rintro e wz ⟨rfl, hz⟩; rw [hz]; clear hz))
            go_ret
            exact ⟨rfl, ((HF.out.trans FR.out).trans P8.out.1.ab.fr).trans f9⟩
theorem Fr.below {L : List Nat} {B : Nat} {a b : World} (h : Fr L a b) (hB : B ≤ a.heap.size) (hL : ∀ k ∈ L, B ≤ k) : Below B a b :=
  ⟨h.os, h.tape, h.output, h.size, fun i hi => h.block i (Nat.lt_of_lt_of_le hi hB) (fun e => by have := hL i e; omega)⟩
end Go.Proofs.YthajipigppndgaaGreat

