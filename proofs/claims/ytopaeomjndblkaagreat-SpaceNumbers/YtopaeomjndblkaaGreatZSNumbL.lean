/-
  SpaceNumbers' law.
-/
import Derived.Test.YtopaeomjndblkaaGreatZSWide
import Derived.Deep.LoopGhost
namespace Go.Proofs.YtopaeomjndblkaaGreat
open Go.RowKit Go.Maps
open Pg (SpE diffS byteAt)

/-- The law's book while pages are taken and given. -/
structure NbS (w0 w : World) (bp : Nat) (m : Mst) (b : Bk) (H : List Ch) (V : Pages) (tk : Nat → Bool) (p : Int) : Prop where
  i : In w0 w bp [] 72 m Z0 b H V
  pg : b.x.pages = 34
  sp : Spz 34 V tk
  ph : phN b H ≤ p
  cp : capN b = 14280
section
variable {w0 w w' : World} {bp : Nat} {m : Mst} {b b' : Bk} {H H' : List Ch} {V V' : Pages} {tk tk' : Nat → Bool} {p c : Int}
theorem NbS.did (h : NbS w0 w bp m b H V tk p) (d : Did w0 w' bp [] 72 m Z0 b H V' c b' H') (sp : Spz 34 V' tk') : NbS w0 w' bp m b' H' V' tk' (p + c) := ⟨d.i, by rw [d.tr.pages]; exact h.pg, sp, by have h1 := d.ph; have h2 := h.ph; omega, by rw [d.tr.cap]; exact h.cp⟩
theorem NbS.rd (h : NbS w0 w bp m b H V tk p) (r : Rd w0 w' bp [] b b') : NbS w0 w' bp m b' H V tk p := ⟨h.i.rd r, by rw [r.tr.pages]; exact h.pg, h.sp, by have h1 := (r.did h.i).ph; have h2 := h.ph; omega, by rw [r.tr.cap]; exact h.cp⟩
theorem NbS.take (h : NbS w0 w bp m b H V tk p) (hp : p ≤ 10000) {k : Nat} (hk : k < 34) (h2 : 2 ≤ k) (hf : tk k = false) (hl : ∀ q, q < k → tk q = true) :
    Calls Tryz.prog 62 #[.pointer (some ⟨bp, 0, none⟩)] w fun e w' => e = .returned (.tuple #[.int .i64 (k : Int), .int .i64 0]) ∧ ∃ b' H', Hid (NbS w0 w' bp m b' H' (takeV V k) (fun q => tk q || decide (q = k)) (p + 97)) := by
  have hph := h.ph
  have hcp := h.cp
  refine (stake_sure h.i (p := k) (by rw [h.pg]; exact h.sp) (by
    rw [h.pg]
    exact ⟨hk, by rw [h.sp.bits k hk]; exact hf, fun q hq => by rw [h.sp.bits q (by omega)]; exact hl q hq⟩) (by omega) (by omega)).mono ?_
  rintro e w' ⟨he, b', H', D⟩
  exact ⟨he, b', H', hidI (h.did D.out (h.sp.take hk (by have : ownN 34 = 2 := rfl; omega) (h.i.len (by rw [h.pg]; omega))))⟩
theorem NbS.give (h : NbS w0 w bp m b H V tk p) (hp : p ≤ 10000) {k : Nat} (hk : k < 34) (h2 : 2 ≤ k) (hf : tk k = true) :
    Calls Tryz.prog 63 #[.pointer (some ⟨bp, 0, none⟩), .int .i64 (k : Int)] w fun e w' => e = .returned (.int .i64 0) ∧ ∃ b' H', Hid (NbS w0 w' bp m b' H' (bitV V k clrB) (fun q => tk q && decide (q ≠ k)) (p + 97)) := by
  have hph := h.ph
  have hcp := h.cp
  have ho : ownN 34 ≤ k := by have : ownN 34 = 2 := rfl; omega
  refine (sgive_sure h.i (by rw [h.pg]; exact h.sp) k (by rw [h.pg]; exact hk) (by rw [h.pg]; exact ho) (by rw [h.sp.bits k hk]; exact hf) (by omega) (by omega)).mono ?_
  rintro e w' ⟨he, b', H', D⟩
  exact ⟨he, b', H', hidI (h.did D.out (h.sp.give hk ho (h.i.len (by rw [h.pg]; omega))))⟩
theorem NbS.giveNo (h : NbS w0 w bp m b H V tk p) (k : Int) (hk : k < 0 ∨ 34 ≤ k ∨ k < 2 ∨ (∃ q : Nat, k = (q : Int) ∧ q < 34 ∧ tk q = false)) :
    Calls Tryz.prog 63 #[.pointer (some ⟨bp, 0, none⟩), .int .i64 k] w fun e w' => e = .returned (.int .i64 2) ∧ ∃ b', Hid (NbS w0 w' bp m b' H V tk p) := by
  refine (sgive_arg h.i (by rw [h.pg]; exact h.sp.sp) k ?_).mono ?_
  · rw [h.pg]
    rcases hk with h1 | h1 | h1 | ⟨q, rfl, hq, ht⟩
    · exact Or.inl h1
    · exact Or.inr (Or.inl (by omega))
    · exact Or.inr (Or.inr (Or.inl (by have : ownN 34 = 2 := rfl; omega)))
    · refine Or.inr (Or.inr (Or.inr ?_))
      rw [show ((q : Int)).toNat = q by omega, h.sp.bits q hq]
      exact ht
  · rintro e w' ⟨he, b', D⟩
    have := h.did D.out h.sp
    exact ⟨he, b', hidI ⟨this.i, this.pg, this.sp, by have := this.ph; omega, this.cp⟩⟩
theorem NbS.root (h : NbS w0 w bp m b H V tk p) (hp : p ≤ 10000) {k v : Nat} (hk : k < 8) (hv : v < 34) :
    Calls Tryz.prog 64 #[.pointer (some ⟨bp, 0, none⟩), .int .i64 (k : Int), .int .i64 (v : Int)] w fun e w' => e = .returned (.int .i64 0) ∧ ∃ b' H', Hid (NbS w0 w' bp m b' H' (rootV V k v) tk (p + 132)) := by
  have hph := h.ph
  have hcp := h.cp
  refine (in_setRoot h.i (by omega) (by rw [h.pg]; exact h.sp.sp.hd) k v hk (by rw [h.pg]; exact hv)).mono ?_
  rintro e w' ⟨r, he, P⟩
  rcases P.out with ⟨_, hf, _⟩ | ⟨rfl, b', H', D⟩
  · omega
  · exact ⟨he, b', H', hidI (h.did D (h.sp.root (h.i.len (by rw [h.pg]; omega)) hk hv (by omega)))⟩
end
set_option maxHeartbeats 16000000 in
set_option maxRecDepth 100000 in
theorem spaceNumbers_law (w : World) : Calls Tryz.prog 12 #[] w fun e w' => e = .returned (.bool true) ∧ Fr [] w w' := by
  go_enter Tryz.func12, Tryz.ntmps12
  go_wp2_with fail
  refine (formatted_ok w).mono ?_
  rintro e w1 ⟨bp, rfl, P⟩
  obtain ⟨m, b, H, V, S0⟩ : ∃ m b H V, Hid (NbS w w1 bp m b H V (fun k => decide (k < 2)) 671) := by
    obtain ⟨b, m, H, I, pg, ph, hA, _⟩ := P.out
    refine ⟨m, b, H, _, hidI ⟨I, pg, fmt_spz (fun t _ => Z0_len _) (by omega) (fun p _ _ => rfl), ph, ?_⟩⟩
    have h1 := I.capn
    rw [hA] at h1
    omega
  have T0 := sfree_any S0.out.i.ab S0.out.i.tx.sh (by rw [S0.out.pg]; omega) (by rw [S0.out.pg]; omega) (by rw [S0.out.pg]; exact S0.out.sp.sp.hd)
  rw [S0.out.pg, cntF_of S0.out.sp.bits, show ((34 - 2 : Nat) : Int) = 32 from rfl] at T0
  clear P
  go_wp2_with fail
  refine T0.mono ?_
  rintro e w2 ⟨b2, rfl, R2⟩
  have S1 := hidI (S0.out.rd R2.out)
  clear T0 R2 S0
  go_wp2_with fail
  go_loopg [4] 32 (fun g s4 wx => ∃ i : Nat, i + g = 32 ∧ s4 = .int .i64 (i : Int) ∧ Hid (∃ b H V, NbS w wx bp m b H V (fun k => decide (k < 2 + i)) (671 + 97 * i)))
  case atStart => exact ⟨0, by omega, rfl, hidI ⟨b2, H, V, by simpa using S1.out⟩⟩
  case round =>
    obtain ⟨i, hi, rfl, HR⟩ := hrel
    clear S1
    obtain ⟨b, H, V, S1⟩ : ∃ b H V, Hid (NbS w wr bp m b H V (fun k => decide (k < 2 + i)) (671 + 97 * i)) := by
      obtain ⟨b, H, V, h⟩ := HR.out
      exact ⟨b, H, V, hidI h⟩
    clear HR
    by_cases hlt : i < 32
    · have q0 : (i : Int) < 32 := by omega
      obtain ⟨g, rfl⟩ : ∃ g, gk = g + 1 := ⟨gk - 1, by omega⟩
      obtain ⟨k, hk⟩ : ∃ k : Nat, 2 + i = k := ⟨_, rfl⟩
      have ek : IntKind.i64.wrap (2 + (i : Int)) = (k : Int) := by rw [wrapI _ (by omega) (by omega)]; omega
      have TX := S1.out.take (by omega) (k := k) (by omega) (by omega) (decide_eq_false (by omega)) (fun q hq => decide_eq_true (by omega))
      have HK := hidI hk
      clear hk
      go_wp2_with fail
      refine TX.mono ?_
      rintro e w3 ⟨rfl, b3, H3, S3⟩
      clear TX
      go_wp2_with fail
      go_roundg g
      case measure => omega
      case rel =>
        refine ⟨i + 1, by omega, by go_num, hidI ⟨b3, H3, _, S3.out.i, S3.out.pg, S3.out.sp.congr (fun q _ => ?_), by have := S3.out.ph; omega, S3.out.cp⟩⟩
        have h9 := HK.out
        rw [← Bool.decide_or]
        congr 1
        simp
        omega
    · have q0 : ¬ (i : Int) < 32 := by omega
      obtain rfl : i = 32 := by omega
      clear hi hlt
      have N1 := stake_none S1.out.i (by rw [S1.out.pg]; exact S1.out.sp.sp) (by rw [S1.out.pg]; exact fun q hq => by rw [S1.out.sp.bits q hq]; exact decide_eq_true (by omega))
      simp only [show ((32 : Nat) : Int) = 32 from rfl] at q0 ⊢
      go_wp2_with fail
      refine N1.mono ?_
      rintro e w3 ⟨rfl, b3, D3⟩
      have S3 := hidI (S1.out.did D3.out S1.out.sp)
      clear N1 D3 S1
      have G1 := hidI (S3.out.giveNo 1 (Or.inr (Or.inr (Or.inl (by omega)))))
      go_upto_region 14 with (first
        | (go_at_call 63; (with_reducible show Calls Tryz.prog 63 #[_, Value.int IntKind.i64 1] _ _); refine G1.out.mono ?_; rintro e w4 ⟨rfl, b4, S4⟩; have G2 := hidI (S4.out.giveNo 34 (Or.inr (Or.inl (by omega)))))
        | (go_at_call 63; (with_reducible show Calls Tryz.prog 63 #[_, Value.int IntKind.i64 34] _ _); refine G2.out.mono ?_; rintro e w5 ⟨rfl, b5, S5⟩; have G3 := hidI (S5.out.giveNo (-1) (Or.inl (by omega))))
        | (go_at_call 63; (with_reducible show Calls Tryz.prog 63 #[_, Value.int IntKind.i64 (-1)] _ _); refine G3.out.mono ?_; rintro e w6 ⟨rfl, b6, S6⟩; have G4 := hidI (S6.out.give (by omega) (k := 33) (by omega) (by omega) rfl))
        | (go_at_call 63; (with_reducible show Calls Tryz.prog 63 #[_, Value.int IntKind.i64 33] _ _); refine G4.out.mono ?_; rintro e w7 ⟨rfl, b7, H7, S7⟩; have G5 := hidI (S7.out.give (by omega) (k := 20) (by omega) (by omega) rfl))
        | (go_at_call 63; (with_reducible show Calls Tryz.prog 63 #[_, Value.int IntKind.i64 20] w7 _); refine G5.out.mono ?_; rintro e w8 ⟨rfl, b8, H8, S8⟩; have G6 := hidI (S8.out.giveNo 20 (Or.inr (Or.inr (Or.inr ⟨20, rfl, by omega, rfl⟩)))))
        | (go_at_call 63; (with_reducible show Calls Tryz.prog 63 #[_, Value.int IntKind.i64 20] w8 _); refine G6.out.mono ?_; rintro e w9 ⟨rfl, b9, S9⟩))
      clear G1 G2 G3 G4 G5 G6 S3 S4 S5 S6 S7 S8
      have T9 := hidI (S9.out.take (by omega) (k := 20) (by omega) (by omega) rfl (fun q hq => by rw [decide_eq_true (show q < 2 + 32 by omega), decide_eq_true (show q ≠ 33 by omega), decide_eq_true (show q ≠ 20 by omega)]; rfl))
      go_upto_region 15 with (go_at_call 62; refine T9.out.mono ?_; rintro e w10 ⟨rfl, b10, H10, S10⟩)
      have A1 := hidI (ssetRoot_arg S10.out.i.ab (by rw [S10.out.pg]; omega) S10.out.i.tx.st 8 0 (Or.inr (Or.inl (by omega))))
      have A2 := hidI (ssetRoot_arg S10.out.i.ab (by rw [S10.out.pg]; omega) S10.out.i.tx.st (-1) 0 (Or.inl (by omega)))
      have A3 := hidI (ssetRoot_arg S10.out.i.ab (by rw [S10.out.pg]; omega) S10.out.i.tx.st 0 34 (Or.inr (Or.inr (Or.inr (by rw [S10.out.pg]; omega)))))
      have A4 := hidI (S10.out.root (by omega) (k := 7) (v := 33) (by omega) (by omega))
      clear T9 S9
      go_upto_region 17 with (first
        | (go_at_call 64; (with_reducible show Calls Tryz.prog 64 #[_, Value.int IntKind.i64 8, _] _ _); refine A1.out.mono ?_; rintro e wz ⟨rfl, hz⟩; rw [hz]; clear hz)
        | (go_at_call 64; (with_reducible show Calls Tryz.prog 64 #[_, Value.int IntKind.i64 (-1), _] _ _); refine A2.out.mono ?_; rintro e wz ⟨rfl, hz⟩; rw [hz]; clear hz)
        | (go_at_call 64; (with_reducible show Calls Tryz.prog 64 #[_, Value.int IntKind.i64 0, _] _ _); refine A3.out.mono ?_; rintro e wz ⟨rfl, hz⟩; rw [hz]; clear hz)
        | (go_at_call 64; (with_reducible show Calls Tryz.prog 64 #[_, Value.int IntKind.i64 7, _] _ _); refine A4.out.mono ?_; rintro e w11 ⟨rfl, b11, H11, S11⟩))
      have hl0 : (takeV (bitV (bitV V 33 clrB) 20 clrB) 20 0).length = 512 := S10.out.i.len (by rw [S10.out.pg]; omega)
      have R1 := rd_root S11.out.i.ab S11.out.i.tx.sh (by rw [S11.out.pg]; omega) (by rw [S11.out.pg]; omega) (by rw [S11.out.pg]; exact S11.out.sp.sp.hd) 7 (by omega)
      rw [rootV_root hl0 (by omega) (by omega) (by omega), if_pos rfl] at R1
      have R1' := hidI R1
      clear A1 A2 A3 A4 R1 hl0
      go_upto_region 18 with (go_at_call 65; refine R1'.out.mono ?_; rintro e w12 ⟨b12, rfl, Q12⟩)
      have S12 := hidI (S11.out.rd Q12.out)
      have R2 := hidI (sroot_arg S12.out.i.ab (by rw [S12.out.pg]; omega) 8 (Or.inr (by omega)))
      clear R1' Q12 S11 S10
      go_upto_region 19 with (go_at_call 65; refine R2.out.mono ?_; rintro e wz ⟨rfl, hz⟩; rw [hz]; clear hz)
      have f12 : Fr [] w w12 := S12.out.i.ab.fr
      obtain ⟨nb, n0, n1, n2, BX⟩ := book_ok w12 0 0 (by decide) (by omega) (by omega)
      obtain rfl : nb = 24 := by omega
      have BX' := hidI BX
      clear n0 n1 n2 BX R2 S12
      go_upto_region 20 with (go_at_call 66; refine BX'.out.mono ?_; rintro e w14 ⟨cp, rfl, P14⟩)
      obtain ⟨c, HC⟩ : ∃ c, Hid (Ab w12 w14 cp c [] ∧ Fresh c 24 8 3 m321) := by
        obtain ⟨c, h⟩ := P14.out
        exact ⟨c, hidI h⟩
      have cpg : c.x.pages = 10 := by
        have h1 := HC.out.2.pages
        omega
      have F1 := hidI (sformat_out HC.out.1 (by rw [cpg]; omega) (by rw [HC.out.2.t]; rfl))
      have F2 := hidI (idl_beg (⟨HC.out.1, HC.out.2.env (by omega) (by omega), HC.out.2.idle (by omega) (by omega)⟩ : Idl w12 w14 cp [] 24 m321 c Z0) (by decide))
      clear BX' P14
      go_upto_region 22 with (first
        | (go_at_call 67; refine F1.out.mono ?_; rintro e wz ⟨rfl, hz⟩; rw [hz]; clear hz)
        | (go_at_call 30; refine F2.out.mono ?_; rintro e w15 ⟨rfl, c1, m1, P15⟩))
      have pg1 : Hid (c1.x.pages = 10 ∧ phN c1 [] = 0 ∧ c1.x.y.A = 0) := hidI ⟨by rw [P15.out.2.1.pages]; exact cpg, by rw [P15.out.2.2.1, HC.out.2.E]; rfl, by
        have h1 := HC.out.2.A
        have h2 := HC.out.2.E
        rcases P15.out.2.2.2.1 with e | e <;> omega⟩
      have X1 := hidI (sfree_not P15.out.1.ab P15.out.1.tx.sh (by rw [pg1.out.1]; omega) (by rw [pg1.out.1]; omega) (zs_notHd _))
      clear F1 F2 cpg HC
      go_upto_region 23 with (go_at_call 61; refine X1.out.mono ?_; rintro e w16 ⟨c2, rfl, Q16⟩)
      have I16 := hidI (P15.out.1.rd Q16.out)
      have pg2 : Hid (c2.x.pages = 10) := hidI (by rw [Q16.out.tr.pages]; exact pg1.out.1)
      have X2 := hidI (stake_not I16.out.ab I16.out.tx.sh (by rw [pg2.out]; omega) (by rw [pg2.out]; omega) I16.out.tx.st (zs_notHd _))
      clear X1
      go_upto_region 24 with (go_at_call 62; refine X2.out.mono ?_; rintro e w17 ⟨c3, rfl, Q17⟩)
      have I17 := hidI (I16.out.rd Q17.out)
      have pg3 : Hid (c3.x.pages = 10 ∧ phN c3 [] = 0 ∧ c3.x.y.A = 0) := hidI ⟨by rw [Q17.out.tr.pages]; exact pg2.out, by
        have h1 := Q17.out.E
        have h2 := Q16.out.E
        have h3 := pg1.out.2.1
        unfold phN at *
        rw [h1, h2]
        exact h3, by rw [Q17.out.tr.A, Q16.out.tr.A]; exact pg1.out.2.2⟩
      have X3 := hidI (sgive_not I17.out.ab I17.out.tx.sh (by rw [pg3.out.1]; omega) (by rw [pg3.out.1]; omega) I17.out.tx.st (zs_notHd _) 3)
      clear X2 pg2 pg1
      go_wp2_with (first
        | (go_at_call 63; refine X3.out.mono ?_; rintro e w18 ⟨c4, rfl, Q18⟩; have I18 := hidI (I17.out.rd Q18.out); have pg4 : Hid (c4.x.pages = 10) := hidI (by rw [Q18.out.tr.pages]; exact pg3.out.1); have X4 := hidI (ssetRoot_not I18.out.ab I18.out.tx.sh (by rw [pg4.out]; omega) (by rw [pg4.out]; omega) I18.out.tx.st (zs_notHd _) 0 0 (by omega) (by rw [pg4.out]; omega)))
        | (go_at_call 64; (with_reducible show Calls Tryz.prog 64 #[_, Value.int IntKind.i64 0, _] _ _); refine X4.out.mono ?_; rintro e w19 ⟨c5, rfl, Q19⟩; have I19 := hidI (I18.out.rd Q19.out); have pg5 : Hid (c5.x.pages = 10 ∧ phN c5 [] = 0 ∧ c5.x.y.A = 0) := hidI ⟨by rw [Q19.out.tr.pages]; exact pg4.out, by have h1 := Q19.out.E; have h2 := Q18.out.E; have h3 := pg3.out.2.1; unfold phN at *; rw [h1, h2]; exact h3, by rw [Q19.out.tr.A, Q18.out.tr.A]; exact pg3.out.2.2⟩; have X5 := hidI (ssetRoot_arg I19.out.ab (by rw [pg5.out.1]; omega) I19.out.tx.st 9 0 (Or.inr (Or.inl (by omega)))); have X6 := hidI (sformat_in I19.out 143 (by rw [pg5.out.1]; decide) (fun i _ _ => Z0_byte 0 i) (by rw [pg5.out.2.1]; decide)))
        | (go_at_call 64; (with_reducible show Calls Tryz.prog 64 #[_, Value.int IntKind.i64 9, _] _ _); refine X5.out.mono ?_; rintro e wz ⟨rfl, hz⟩; rw [hz]; clear hz)
        | (go_at_call 67; refine X6.out.mono ?_; rintro e w20 ⟨r, rfl, P20⟩; obtain ⟨rfl, c6, H6, D6⟩ : r = 0 ∧ ∃ c6 H6, Hid (Did w12 w20 cp [] 24 m1 Z0 c5 [] (fmtV c5.x.pages Z0) ((mapsN c5.x.pages * 143 : Nat) + 528) c6 H6) := (by
            rcases P20.out with ⟨_, hf, _⟩ | ⟨h1, c6, H6, h2⟩
            · exfalso
              have h1 := I19.out.capn
              rw [pg5.out.2.1, h1, pg5.out.2.2, pg5.out.1, show mapsN 10 = 1 from rfl] at hf
              omega
            · exact ⟨h1, c6, H6, hidI h2⟩))
        | (go_at_call 68; refine (swide_ok _).mono ?_; rintro e w21 ⟨rfl, f21⟩)
        | (go_at_call 58; refine (sawake_ok _).mono ?_; rintro e w22 ⟨rfl, f22⟩))
      go_ret
      exact ⟨rfl, f12.trans (D6.out.i.ab.fr.trans (f21.trans f22))⟩
end Go.Proofs.YtopaeomjndblkaaGreat

