/-
  SpaceOnce' law.
-/
import Derived.Test.YtopaeomjndblkaaGreatZSOnc2M
import Derived.Deep.LoopGhost
import Derived.Deep.CutRange
import Derived.BigQuiet
namespace Go.Proofs.YtopaeomjndblkaaGreat
open Go.RowKit Go.Maps
open Pg (SpE diffS byteAt)

def ar0 : Array Value := ((List.range 64).map fun _ => Value.bool false).toArray
set_option maxHeartbeats 16000000 in
set_option maxRecDepth 100000 in
theorem spaceOnce_law (w : World) (ad : Option Addr) (nL cL : Nat) (L : List SDo) (hnL : L.length = nL) (hsL : nL ≤ cL ∧ cL < 9223372036854775808) (hD : SDosAt w ad L) :
    Calls Tryz.prog 13 #[.slice ad nL cL] w fun e w' => e = .returned (.bool true) ∧ Fr [] w w' := by
  have HD := hidI hD
  have HL := hidI hnL
  clear hD hnL
  go_enter Tryz.func13, Tryz.ntmps13
  go_upto_if 22 with (go_at_call 58; refine (sawake_ok w).mono ?_; rintro e w1 ⟨rfl, f1⟩)
  go_cut [0] from 23 (fun s0 wx => ∃ n c, s0 = .slice ad n c ∧ n ≤ 80 ∧ n ≤ nL ∧ wx = w1)
  case first =>
    by_cases hlong : 80 < nL
    · have q0 : (80 : Int) < (nL : Int) := by omega
      obtain ⟨d, hd⟩ : ∃ d, L[0]? = some d := ⟨_, List.getElem?_eq_getElem (by have := HL.out; omega)⟩
      obtain ⟨_, b0, off, rfl, _⟩ := HD.out 0 d hd
      have q1 : (80 : Int) ≤ (cL : Int) := by omega
      clear hd
      go_wp2_with fail
      go_meet
      exact ⟨80, _, rfl, by omega, by omega, rfl⟩
    · have q0 : ¬ (80 : Int) < (nL : Int) := by omega
      go_wp2_with fail
      go_meet
      exact ⟨nL, _, rfl, by omega, by omega, rfl⟩
  case rest =>
    obtain ⟨n, c, rfl, hn8, hnL, rfl⟩ := hcut
    go_wp2_with fail
    refine (formatted_ok wc).mono ?_
    rintro e w2 ⟨bp, rfl, P⟩
    obtain ⟨b2, m2, H2, HB⟩ : ∃ b m H, Hid (In wc w2 bp [] 72 m Z0 b H (fmtV 34 Z0) ∧ b.x.pages = 34 ∧ phN b H ≤ 671 ∧ b.x.y.A = 0 ∧ m.seq ≤ 4) := by
      obtain ⟨b, m, H, h⟩ := P.out
      exact ⟨b, m, H, hidI h⟩
    have CX := hidI (in_com HB.out.1 (by have := HB.out.2.2.1; omega))
    clear P
    go_upto_region 8 with (first
      | (go_at_call 32; refine CX.out.mono ?_; rintro e w3 ⟨rfl, b3, P3⟩; have BX := hidI (idl_beg P3.out.1 (by have := HB.out.2.2.2.2; omega)))
      | (go_at_call 30; refine BX.out.mono ?_; rintro e w4 ⟨rfl, b4, m4, P4⟩))
    have f5 := (Fr.refl [] w4).alloc (.cells ar0 138)
    have h5 := heap_alloc_new w4 (.cells ar0 138)
    obtain ⟨w5, hw5⟩ : ∃ w5, w4.alloc (.cells #[.bool false, .bool false, .bool false, .bool false, .bool false, .bool false, .bool false, .bool false, .bool false, .bool false, .bool false, .bool false, .bool false, .bool false, .bool false, .bool false, .bool false, .bool false, .bool false, .bool false, .bool false, .bool false, .bool false, .bool false, .bool false, .bool false, .bool false, .bool false, .bool false, .bool false, .bool false, .bool false, .bool false, .bool false, .bool false, .bool false, .bool false, .bool false, .bool false, .bool false, .bool false, .bool false, .bool false, .bool false, .bool false, .bool false, .bool false, .bool false, .bool false, .bool false, .bool false, .bool false, .bool false, .bool false, .bool false, .bool false, .bool false, .bool false, .bool false, .bool false, .bool false, .bool false, .bool false, .bool false] 138) = w5 := ⟨_, rfl⟩
    obtain ⟨mb, hmb⟩ : ∃ mb, w4.heap.size = mb := ⟨_, rfl⟩
    rw [show w4.alloc (.cells ar0 138) = w5 from hw5] at f5 h5
    rw [hmb] at h5
    have f6 := (Fr.refl [] w5).alloc (.cells ar0 138)
    have h6 := heap_alloc_new w5 (.cells ar0 138)
    obtain ⟨w6, hw6⟩ : ∃ w6, w5.alloc (.cells #[.bool false, .bool false, .bool false, .bool false, .bool false, .bool false, .bool false, .bool false, .bool false, .bool false, .bool false, .bool false, .bool false, .bool false, .bool false, .bool false, .bool false, .bool false, .bool false, .bool false, .bool false, .bool false, .bool false, .bool false, .bool false, .bool false, .bool false, .bool false, .bool false, .bool false, .bool false, .bool false, .bool false, .bool false, .bool false, .bool false, .bool false, .bool false, .bool false, .bool false, .bool false, .bool false, .bool false, .bool false, .bool false, .bool false, .bool false, .bool false, .bool false, .bool false, .bool false, .bool false, .bool false, .bool false, .bool false, .bool false, .bool false, .bool false, .bool false, .bool false, .bool false, .bool false, .bool false, .bool false] 138) = w6 := ⟨_, rfl⟩
    obtain ⟨kb, hkb⟩ : ∃ kb, w5.heap.size = kb := ⟨_, rfl⟩
    rw [show w5.alloc (.cells ar0 138) = w6 from hw6] at f6 h6
    rw [hkb] at h6
    have lt5 : mb < w5.heap.size := (Array.getElem?_eq_some_iff.1 h5).1
    have h56 : w6.heap[mb]? = some (.cells ar0 138) := f6.same (by simp) h5
    have S0 : Hid (∃ b m U H V, OnS w w6 bp mb kb m U b H V 1000 6 ∧ cntF V 34 = 32 ∧ cntF U 34 = 32) := hidI (by
      obtain ⟨I4, N4, p4, _, _⟩ := P4.out
      obtain ⟨I3, N3, E3, _⟩ := P3.out
      have I0 : In w w4 bp [] 72 m4 (fmtV 34 Z0) b4 [] (fmtV 34 Z0) := ⟨⟨I4.ab.bk, f1.trans I4.ab.fr, fun k hk => Nat.le_trans f1.size (I4.ab.new k hk), I4.ab.ebp, I4.ab.kp⟩, I4.env, I4.tx, I4.un⟩
      have sz := fmt_spz (n := 34) (V := Z0) (fun t _ => Z0_len _) (by omega) (fun p _ _ => rfl)
      have ho : OneV (fmtV 34 Z0) := fun p h2 h3 => ⟨512, 0, by rw [sz.z p h2 h3, List.set_eq_of_length_le (by rw [zs_length]; omega)]⟩
      have ea : ar0 = arM (fmtV 34 Z0) := (arM_zero _ (fun k h2 h3 => by rw [sz.bits k h3, decide_eq_false (by rw [own34]; omega)])).symm
      rw [ea] at h6 h56
      have I6 := (I0.quiet f5).quiet f6
      have n1 := (I6.ab.bk.away h56 (by decide) (by decide) (by decide) (by decide)).2.1
      have n2 := (I6.ab.bk.away h6 (by decide) (by decide) (by decide) (by decide)).2.1
      have sz4 := I0.ab.fr.size
      have hc : cntF (fmtV 34 Z0) 34 = 32 := by rw [cntF_of (a := 2) (fun k hk => sz.bits k hk)]
      have hE2 := HB.out.1.E
      exact ⟨b4, m4, fmtV 34 Z0, [], fmtV 34 Z0, ⟨I6.on ((I6.ab.add h6 n2).add h56 n1), by rw [N4.pages, N3.pages]; exact HB.out.2.1, sz.sp, sz.sp, ho, ho, by omega, by omega, by omega, by have := HB.out.2.2.1; omega, by have h1 := N4.s1; have h2 := HB.out.2.2.2.2; omega⟩, hc, hc⟩)
    clear f5 h5 f6 h6 h56 P4 P3 HB CX lt5
    go_wp2_with fail
    clear hw5 hw6 hmb hkb
    go_loopg [6, 7, 8] n (fun g s6 s7 s8 wx => ∃ (i : Nat) (cv cu : Nat), i + g = n ∧ s8 = .int .i64 (i : Int) ∧ s6 = .int .i64 (32 - (cv : Int)) ∧ s7 = .int .i64 (32 - (cu : Int)) ∧ cv ≤ 32 ∧ cu ≤ 32 ∧ Hid (∃ b m U H V, OnS w wx bp mb kb m U b H V (1000 + 500 * i) (6 + 2 * i) ∧ cntF V 34 = cv ∧ cntF U 34 = cu))
    case atStart => exact ⟨0, 32, 32, by omega, rfl, rfl, rfl, by omega, by omega, by simpa using S0⟩
    case round =>
      obtain ⟨i, cv, cu, hi, rfl, rfl, rfl, hcv, hcu, HR⟩ := hrel
      obtain ⟨b, m, U, H, V, HS⟩ : ∃ b m U H V, Hid (OnS w wr bp mb kb m U b H V (1000 + 500 * i) (6 + 2 * i) ∧ cntF V 34 = cv ∧ cntF U 34 = cu) := by
        obtain ⟨b, m, U, H, V, h⟩ := HR.out
        exact ⟨b, m, U, H, V, hidI h⟩
      clear HR S0
      by_cases hlt : i < n
      · have q0 : (i : Int) < (n : Int) := by omega
        obtain ⟨g, rfl⟩ : ∃ g, gk = g + 1 := ⟨gk - 1, by omega⟩
        obtain ⟨d, hd⟩ : ∃ d, L[i]? = some d := ⟨_, List.getElem?_eq_getElem (by have := HL.out; omega)⟩
        obtain ⟨ok, b0, off, rfl, c0, c1, c2⟩ := (HD.out.kept HS.out.1.i.ab.fr) i d hd
        have HCC : Hid (∀ w', Fr [] w w' → w'.cell? ⟨b0, off + i * 3 + 1, none⟩ = some (.int .i64 d.page) ∧ w'.cell? ⟨b0, off + i * 3 + 2, none⟩ = some (.int .i64 d.which)) := hidI (fun w' f => by
          obtain ⟨_, b2, o2, e2, _, q1, q2⟩ := (HD.out.kept f) i d hd
          cases e2
          exact ⟨q1, q2⟩)
        obtain ⟨ko, ko0, ko1, PO⟩ := pick_in wr d.op 6 ok.op (by omega) (by omega)
        have OK := hidI ok
        have hp5 : 1000 + 500 * (i : Int) ≤ 100000 := by omega
        clear ok hd c1 c2
        obtain ⟨ct, hct⟩ : ∃ ct : Int, 32 - (cv : Int) = ct := ⟨_, rfl⟩
        obtain ⟨cs, hcs⟩ : ∃ cs : Int, 32 - (cu : Int) = cs := ⟨_, rfl⟩
        rw [hct, hcs]
        have HCT := hidI (And.intro hct hcs)
        have ct0 : 0 ≤ ct ∧ ct ≤ 32 := by omega
        have hw1 : IntKind.i64.wrap (32 - ct) = (cv : Int) := by rw [wrapI _ (by omega) (by omega)]; omega
        clear hct hcs
        by_cases k0 : ko = 0
        · have e0 : (ko : Int) = 0 := by omega
          rw [e0] at PO
          obtain ⟨kp, kp0, kp1, _⟩ := pick_in wr d.page 32 OK.out.page (by omega) (by omega)
          have PP : Hid (∀ w', Calls Tryz.prog 40 #[.int .i64 d.page, .int .i64 32] w' fun e w'' => e = .returned (.int .i64 (kp : Int)) ∧ w'' = w') := hidI (fun w' => by rw [← kp0]; exact Pg.pick_any w' d.page 32 OK.out.page (by omega) (by omega))
          have c1 := (HCC.out _ HS.out.1.i.ab.fr).1
          obtain ⟨q, hq⟩ : ∃ q : Nat, 2 + kp = q := ⟨_, rfl⟩
          have eq2 : 2 + (kp : Int) = (q : Int) := by omega
          have wq : IntKind.i64.wrap (2 + (kp : Int)) = (q : Int) := by rw [wrapI _ (by omega) (by omega)]; exact eq2
          have q2 : 2 ≤ q := by omega
          have q34 : q < 34 := by omega
          have GX := HS.out.1.give (by omega) q2 q34
          have HEQ := hidI (And.intro hq eq2)
          clear k0 e0 ko0 ko1 kp0 hq eq2
          go_wp2_with (first
            | (go_at_call 40; (with_reducible show Calls Tryz.prog 40 #[_, Value.int IntKind.i64 6] _ _); refine PO.mono ?_; rintro e wz ⟨rfl, hz⟩; rw [hz]; clear hz)
            | (go_at_call 40; refine (PP.out _).mono ?_; rintro e wz ⟨rfl, hz⟩; rw [hz]; clear hz))
          refine GX.mono ?_
          rintro e w4 ⟨r, rfl, P4⟩
          clear GX PO PP c0 c1 wq
          rcases P4.out with ⟨rfl, _, b4, O4⟩ | ⟨rfl, hmk, b4, O4⟩ | ⟨rfl, hmk, hb4, b4, H4, O4⟩
          · have AX := hidI (O4.back (by omega) (by omega) O4.i O4.pg O4.ph)
            have SU := hidI (And.intro O4.su O4.ou)
            clear O4 P4
            go_wp2_with (first
              | (go_at_call 33; refine AX.out.mono ?_; rintro e w5 ⟨rfl, B5⟩)
              | (go_at_call 30; refine B5.out.mono ?_; rintro e w6 ⟨rfl, m6, b6, P6⟩; have hmr := P6.out.1; have hkr := P6.out.2.1)
              | (refine wp_loadA rfl _ rfl kb rfl U hkr ?_)
              | (refine wp_storeA rfl _ _ rfl mb V U rfl rfl hmr ?_))
            go_roundg g
            case measure => omega
            case rel => exact ⟨i + 1, cu, cu, by omega, by go_num, by have := HCT.out.2; congr 1; omega, by have := HCT.out.2; congr 1; omega, by omega, by omega, hidI ⟨b6, m6, U, [], U, P6.out.2.2.1.le (by omega) (by omega), HS.out.2.2, HS.out.2.2⟩⟩
          · have cm : w4.cell? ⟨mb, q, none⟩ = some (.bool false) := by rw [arM_cell O4.bm q2 q34, hmk]
            have zm := frozen_of_row w4 mb q _ _ O4.bm
            have q64 : (q : Int) < 64 := by omega
            have T5 : Hid (OnS w (w4.setCell ⟨mb, q, none⟩ (.bool false)) bp mb kb m U b4 H V (1000 + 500 * i + 0) (6 + 2 * i) ∧ cntF V 34 = cv ∧ cntF U 34 = cu) := hidI ⟨O4.turn O4.i.did O4.sp O4.ov q2 q34 (fun k _ => by
              by_cases e : k = q
              · rw [if_pos e, e, hmk]
              · rw [if_neg e]), HS.out.2.1, HS.out.2.2⟩
            clear O4 P4 hmk
            have HCTx := HCT.out
            have FX := hidI (T5.out.1.free)
            rw [T5.out.2.1] at FX
            go_wp2_with fail
            refine FX.out.mono ?_
            rintro e wf ⟨bf, rfl, OF⟩
            go_wp2_with fail
            go_roundg g
            case measure => omega
            case rel => exact ⟨i + 1, cv, cu, by omega, by go_num, by congr 1; omega, by congr 1; omega, by omega, by omega, hidI ⟨bf, _, _, _, _, OF.out.le (by omega) (by omega), T5.out.2.1, T5.out.2.2⟩⟩
          · have cm : w4.cell? ⟨mb, q, none⟩ = some (.bool true) := by rw [arM_cell hb4 q2 q34, hmk]
            have zm := frozen_of_row w4 mb q _ _ hb4
            have q64 : (q : Int) < 64 := by omega
            have hlen : (V (1 + q / 4096)).length = 512 := HS.out.1.i.len (by rw [HS.out.1.pg]; omega)
            have hgc := give_cnt hlen q34 hmk
            obtain ⟨cv1, hcv1⟩ : ∃ cv1 : Nat, cv + 1 = cv1 := ⟨_, rfl⟩
            have hle := O4.cnt
            have T5 : Hid (OnS w (w4.setCell ⟨mb, q, none⟩ (.bool false)) bp mb kb m U b4 H4 (bitV V q clrB) (1000 + 500 * i + 97) (6 + 2 * i) ∧ cntF (bitV V q clrB) 34 = cv1 ∧ cntF U 34 = cu) := hidI ⟨O4, by rw [hgc, HS.out.2.1]; exact hcv1, HS.out.2.2⟩
            have hcv32 : cv1 ≤ 32 := by rw [← T5.out.2.1]; exact hle
            have HCTx := HCT.out
            obtain ⟨ct1, hct1⟩ : ∃ ct1 : Int, ct - 1 = ct1 := ⟨_, rfl⟩
            have wd : IntKind.i64.wrap (ct - 1) = ct1 := by rw [wrapI _ (by omega) (by omega)]; exact hct1
            have hw2 : IntKind.i64.wrap (32 - ct1) = (cv1 : Int) := by rw [wrapI _ (by omega) (by omega)]; omega
            have HX1 := hidI (And.intro hct1 hcv1)
            clear O4 P4 hmk hb4 hlen hgc hle hct1 hcv1
            have FX := hidI (T5.out.1.free)
            rw [T5.out.2.1] at FX
            go_wp2_with fail
            refine FX.out.mono ?_
            rintro e wf ⟨bf, rfl, OF⟩
            go_wp2_with fail
            go_roundg g
            case measure => omega
            case rel => exact ⟨i + 1, cv1, cu, by omega, by go_num, by have := HX1.out; congr 1; omega, by congr 1; omega, by omega, by omega, hidI ⟨bf, _, _, _, _, OF.out.le (by omega) (by omega), T5.out.2.1, T5.out.2.2⟩⟩
        · by_cases k1 : ko = 1
          · have e1 : (ko : Int) = 1 := by omega
            rw [e1] at PO
            have c2 := (HCC.out _ HS.out.1.i.ab.fr).2
            have hws : IntKind.i64.wrap (32 - cs) = (cu : Int) := by have h9 := HCT.out.2; rw [wrapI _ (by omega) (by omega)]; omega
            clear k0 k1 e1 ko0 ko1
            have HCTx := HCT.out
            by_cases ho : Int.tmod d.which 2 = 0
            · have KX := hidI (HS.out.1.keep (by omega))
              go_wp2_with (first
                | (go_at_call 40; refine PO.mono ?_; rintro e wz ⟨rfl, hz⟩; rw [hz]; clear hz)
                | (go_at_call 32; refine KX.out.mono ?_; rintro e w5 ⟨rfl, b5, P5⟩; have hm5 := P5.out.1; have hk5 := P5.out.2.1; have BX := hidI (beg_once HS.out.1 (by omega) HS.out.1.sp HS.out.1.ov P5.out.2.2.2.1 P5.out.2.2.2.2.1 P5.out.2.2.2.2.2))
                | (refine wp_loadA rfl _ rfl mb rfl V hm5 ?_)
                | (refine wp_storeA rfl _ _ rfl kb U V rfl rfl hk5 ?_)
                | (go_at_call 30; refine BX.out.mono ?_; rintro e w6 ⟨rfl, m6, b6, P6⟩; have T5 : Hid (OnS w w6 bp mb kb m6 V b6 [] V (1000 + 500 * i + 35) (6 + 2 * i + 1) ∧ cntF V 34 = cv ∧ cntF V 34 = cv) := hidI ⟨P6.out, HS.out.2.1, HS.out.2.1⟩; have FX := hidI T5.out.1.free; rw [T5.out.2.1] at FX)
                | (go_at_call 61; refine FX.out.mono ?_; rintro e wf ⟨bf, rfl, OF⟩))
              go_roundg g
              case measure => omega
              case rel => exact ⟨i + 1, cv, cv, by omega, by go_num, by congr 1; omega, by congr 1; omega, by omega, by omega, hidI ⟨bf, _, _, _, _, OF.out.le (by omega) (by omega), T5.out.2.1, T5.out.2.2⟩⟩
            · have KX := hidI (HS.out.1.abo (by omega))
              go_wp2_with (first
                | (go_at_call 40; refine PO.mono ?_; rintro e wz ⟨rfl, hz⟩; rw [hz]; clear hz)
                | (go_at_call 33; refine KX.out.mono ?_; rintro e w5 ⟨rfl, b5, P5⟩; have hm5 := P5.out.1; have hk5 := P5.out.2.1; have BX := hidI (beg_once HS.out.1 (by omega) HS.out.1.su HS.out.1.ou P5.out.2.2.2.1 P5.out.2.2.2.2.1 P5.out.2.2.2.2.2))
                | (refine wp_loadA rfl _ rfl kb rfl U hk5 ?_)
                | (refine wp_storeA rfl _ _ rfl mb V U rfl rfl hm5 ?_)
                | (go_at_call 30; refine BX.out.mono ?_; rintro e w6 ⟨rfl, m6, b6, P6⟩; have T5 : Hid (OnS w w6 bp mb kb m6 U b6 [] U (1000 + 500 * i + 35) (6 + 2 * i + 1) ∧ cntF U 34 = cu ∧ cntF U 34 = cu) := hidI ⟨P6.out, HS.out.2.2, HS.out.2.2⟩; have FX := hidI T5.out.1.free; rw [T5.out.2.1] at FX)
                | (go_at_call 61; refine FX.out.mono ?_; rintro e wf ⟨bf, rfl, OF⟩))
              go_roundg g
              case measure => omega
              case rel => exact ⟨i + 1, cu, cu, by omega, by go_num, by congr 1; omega, by congr 1; omega, by omega, by omega, hidI ⟨bf, _, _, _, _, OF.out.le (by omega) (by omega), T5.out.2.1, T5.out.2.2⟩⟩
          · have e0 : ((ko : Int) == 0) = false := by rw [beq_eq_false_iff_ne]; omega
            have e1 : ((ko : Int) == 1) = false := by rw [beq_eq_false_iff_ne]; omega
            have TX := hidI (HS.out.1.take (by omega))
            clear k0 k1 ko0 ko1
            go_wp2_with (go_at_call 40; refine PO.mono ?_; rintro e wz ⟨rfl, hz⟩; rw [hz]; clear hz)
            refine TX.out.mono ?_
            rintro e w4 ⟨qq, r, rfl, P4⟩
            clear TX PO c0 e0 e1
            rcases P4.out with ⟨rfl, rfl, hc0, b4, O4⟩ | ⟨rfl, rfl, hc0, b4, H4, V4, I4, pg4, ph4⟩ | ⟨rfl, k, rfl, h2, hk, hmk, b4, H4, D4⟩
            · have T5 : Hid (OnS w w4 bp mb kb m U b4 H V (1000 + 500 * i + 0) (6 + 2 * i) ∧ cntF V 34 = cv ∧ cntF U 34 = cu) := hidI ⟨O4.le (by omega) (by omega), HS.out.2.1, HS.out.2.2⟩
              have hcz : cv = 0 := by rw [← HS.out.2.1]; exact hc0
              have HCTx := HCT.out
              have hl32 : ¬ ct < 32 := by omega
              have HCZ := hidI hcz
              clear O4 P4 hc0 hcz
              have FX := hidI (T5.out.1.free)
              rw [T5.out.2.1] at FX
              go_wp2_with fail
              refine FX.out.mono ?_
              rintro e wf ⟨bf, rfl, OF⟩
              go_wp2_with fail
              go_roundg g
              case measure => omega
              case rel => exact ⟨i + 1, cv, cu, by omega, by go_num, by congr 1; omega, by congr 1; omega, by omega, by omega, hidI ⟨bf, _, _, _, _, OF.out.le (by omega) (by omega), T5.out.2.1, T5.out.2.2⟩⟩
            · have hcz : 0 < cv := by rw [← HS.out.2.1]; exact hc0
              have HCTx := HCT.out
              have hl32 : ct < 32 := by omega
              have AX := hidI ((HS.out.1.le (p' := 1000 + 500 * i + 97) (by omega) (Int.le_refl _)).back (by omega) (by omega) I4 pg4 ph4)
              clear I4 pg4 ph4 P4 hc0 hcz
              go_wp2_with (first
                | (go_at_call 33; refine AX.out.mono ?_; rintro e w5 ⟨rfl, B5⟩)
                | (go_at_call 30; refine B5.out.mono ?_; rintro e w6 ⟨rfl, m6, b6, P6⟩; have hmr := P6.out.1; have hkr := P6.out.2.1)
                | (refine wp_loadA rfl _ rfl kb rfl U hkr ?_)
                | (refine wp_storeA rfl _ _ rfl mb V U rfl rfl hmr ?_))
              go_roundg g
              case measure => omega
              case rel => exact ⟨i + 1, cu, cu, by omega, by go_num, by congr 1; omega, by congr 1; omega, by omega, by omega, hidI ⟨b6, m6, U, [], U, P6.out.2.2.1.le (by omega) (by omega), HS.out.2.2, HS.out.2.2⟩⟩
            · have HCTx := HCT.out
              have hbm : w4.heap[mb]? = some (.cells (arM V) 138) := (D4.i.ab.kp _ List.mem_cons_self).1
              have cm : w4.cell? ⟨mb, k, none⟩ = some (.bool false) := by rw [arM_cell hbm h2 hk, hmk]
              have hlen : (V (1 + k / 4096)).length = 512 := HS.out.1.i.len (by rw [HS.out.1.pg]; omega)
              have htc := take_cnt hlen h2 hk hmk
              have hcz : 0 < cv := by rw [← HS.out.2.1]; omega
              have hl32 : ct < 32 := by omega
              have q3 : ¬ (k : Int) < 2 := by omega
              have q4 : ¬ (33 : Int) < (k : Int) := by omega
              have q64 : (k : Int) < 64 := by omega
              have PX := hidI (once_page HS.out.1 h2 hk D4)
              have HTC := hidI htc
              clear hbm hlen htc D4 P4
              go_wp2_with fail
              refine PX.out.mono ?_
              rintro e w5 ⟨gp, rfl, b5, P5⟩
              clear PX
              have B5 := hidI P5.out.1
              obtain ⟨w6, g6, hmk6, hg6, hb6, f6⟩ := run_make512 w5
              have SX := hidI (same_zs (B5.out.kept f6 (by simp)) hb6)
              have F6 := hidI f6
              clear f6 hb6 hg6
              obtain ⟨ct1, hct1⟩ : ∃ ct1 : Int, ct + 1 = ct1 := ⟨_, rfl⟩
              have wd : IntKind.i64.wrap (ct + 1) = ct1 := by rw [wrapI _ (by omega) (by omega)]; exact hct1
              obtain ⟨cv1, hcv1⟩ : ∃ cv1 : Nat, cv = cv1 + 1 := ⟨cv - 1, by omega⟩
              have hw2 : IntKind.i64.wrap (32 - ct1) = (cv1 : Int) := by rw [wrapI _ (by omega) (by omega)]; omega
              have HX1 := hidI (And.intro hct1 hcv1)
              clear hct1 hcv1 hcz HCTx cm hw1
              go_upto_region 25 with (go_at_call 29; refine SX.out.mono ?_; rintro e w7 ⟨rfl, f7⟩)
              have f57 := F6.out.trans f7
              have hb7 := f57.same (by simp) P5.out.2.1
              have cm7 : w7.cell? ⟨mb, k, none⟩ = some (.bool (MkB V k)) := arM_cell hb7 h2 hk
              have zm7 := frozen_of_row w7 mb k _ _ hb7
              have O8 := hidI (P5.out.2.2.2.2.2 w7 f57)
              have f8 : Fr [mb] w7 (w7.setCell ⟨mb, k, none⟩ (.bool true)) := fr_set w7 mb k _
              have B8 := hidI ((B5.out.kept f57 (by simp)).kept f8 (by simpa using P5.out.2.2.1))
              clear f57 f7 hb7 f8 SX F6
              go_upto_region 27 with fail
              generalize w7.setCell ⟨mb, k, none⟩ (.bool true) = w8 at O8 B8 ⊢
              clear cm7 zm7 q3 q4 hl32 wd
              have c8 := (HCC.out w8 O8.out.i.ab.fr).2
              obtain ⟨kw, kw0, kw1, PW⟩ := pick_in w8 d.which 512 OK.out.which (by omega) (by omega)
              have kw512 : kw < 512 := by omega
              have cg := B8.out.cell kw (by rw [zs_length]; exact kw512)
              have zg := B8.out.frozen kw
              have PW2 := hidI PW
              clear PW kw0
              go_wp2_with (go_at_call 40; refine PW2.out.mono ?_; rintro e wz ⟨rfl, hz⟩; rw [hz]; clear hz)
              have f9 : Fr [gp] w8 (w8.setCell ⟨gp, kw, none⟩ (.int .u8 7)) := fr_set w8 gp kw _
              have B9 : Blk (w8.setCell ⟨gp, kw, none⟩ (.int .u8 7)) gp ((zs 512).set kw 7) := B8.out.set kw 7
              have O9 := O8.out.blk B8.out f9 P5.out.2.2.2.2.1 P5.out.2.2.2.1
              have UX := hidI (O9.put (by omega) h2 hk (takeV_self hk (by rw [own34]; exact h2)) B9 P5.out.2.2.2.2.1)
              clear f9 B9 O9 O8 B8 cg zg c8
              refine UX.out.mono ?_
              rintro e w10 ⟨r, rfl, hr, P10⟩
              obtain ⟨b10, H10, V10, Q10⟩ : ∃ b10 H10 V10, Hid (OnS w w10 bp mb kb m U b10 H10 V10 (1000 + 500 * i + 194 + 97) (6 + 2 * i) ∧ ∀ j, j < 34 → MkB V10 j = MkB (takeV V k) j) := by
                obtain ⟨b10, H10, V10, h⟩ := P10.out
                exact ⟨b10, H10, V10, hidI h⟩
              have T5 : Hid (OnS w w10 bp mb kb m U b10 H10 V10 (1000 + 500 * i + 194 + 97) (6 + 2 * i) ∧ cntF V10 34 = cv1 ∧ cntF U 34 = cu) := hidI ⟨Q10.out.1, by
                have h1 := cntF_congr Q10.out.2
                have h2 := HTC.out
                have h3 := HS.out.2.1
                have h4 := HX1.out.2
                omega, HS.out.2.2⟩
              have hcv1 : cv1 ≤ 32 := by rw [← T5.out.2.1]; exact T5.out.1.cnt
              clear P10 Q10 UX
              rcases hr with rfl | rfl
              · have FX := hidI (T5.out.1.free)
                rw [T5.out.2.1] at FX
                go_wp2_with fail
                refine FX.out.mono ?_
                rintro e wf ⟨bf, rfl, OF⟩
                go_wp2_with fail
                go_roundg g
                case measure => omega
                case rel => exact ⟨i + 1, cv1, cu, by omega, by go_num, by have h8 := HX1.out; have h9 := HCT.out; congr 1; omega, by have h9 := HCT.out; congr 1; omega, by omega, by omega, hidI ⟨bf, _, _, _, _, OF.out.le (by omega) (by omega), T5.out.2.1, T5.out.2.2⟩⟩
              · have FX := hidI (T5.out.1.free)
                rw [T5.out.2.1] at FX
                go_wp2_with fail
                refine FX.out.mono ?_
                rintro e wf ⟨bf, rfl, OF⟩
                go_wp2_with fail
                go_roundg g
                case measure => omega
                case rel => exact ⟨i + 1, cv1, cu, by omega, by go_num, by have h8 := HX1.out; have h9 := HCT.out; congr 1; omega, by have h9 := HCT.out; congr 1; omega, by omega, by omega, hidI ⟨bf, _, _, _, _, OF.out.le (by omega) (by omega), T5.out.2.1, T5.out.2.2⟩⟩
      · have q0 : ¬ (i : Int) < (n : Int) := by omega
        go_wp2_with fail
        go_ret
        exact ⟨rfl, HS.out.1.i.ab.fr⟩
end Go.Proofs.YtopaeomjndblkaaGreat

