/-
  A book of more than 4096 pages.
-/
import Derived.Test.YtopaeomjndblkaaGreatZSNot
namespace Go.Proofs.YtopaeomjndblkaaGreat
open Go.RowKit Go.Maps
open Pg (SpE diffS byteAt)

section
variable {ops : Array Oper} {rest : List Oper} {o : Oper} {a : Act} {w : World} {Q : Exit → Act → World → Prop}
theorem wp_storeTold (hgd : o.guard = none) (x y : Operand) (ho : o.op = .store 108 x y) (g : Nat) (hx : a.eval x = .pointer (some ⟨g, 0, none⟩)) (hy : a.eval y = .agg #[.int .i64 0, .int .i64 0, .int .i64 0, .int .i64 0]) (hg : w.heap[g]? = some (.cells #[.int .i64 0, .int .i64 0, .int .i64 0, .int .i64 0] 108)) (h : wpList Tryz.prog ops Q rest (a.put o.dst undef) (w.setRow g #[.int .i64 0, .int .i64 0, .int .i64 0, .int .i64 0])) : wpList Tryz.prog ops Q (o :: rest) a w :=
  wpList_store_row hgd 108 x y ho g _ hx hy 108 _ hg sizeT rfl (by simp; rfl) h
end
set_option maxHeartbeats 4000000 in
set_option maxRecDepth 100000 in
theorem swide_ok (w : World) : Calls Tryz.prog 68 #[] w fun e w' => e = .returned (.bool true) ∧ Fr [] w w' := by
  go_enter Tryz.func68, Tryz.ntmps68
  go_wp2_with fail
  refine (Dv.new_dev 9000 w (by omega) (by omega)).mono ?_
  rintro e w1 ⟨rfl, D1, f1⟩
  have f1' : Fr [] w w1 := fr_dv f1
  have D1' := hidI D1
  clear D1 f1
  go_wp2_with fail
  refine (format_any w1 _ _ _ 9000 _ _ D1'.out (by omega) (by omega)).mono ?_
  rintro e w2 ⟨rfl, ⟨O', hO, D2⟩, f2⟩
  have HO := hidI hO
  have D2' : Hid (Dv.Dev w2 (w.heap.size + 2) w.heap.size (w.heap.size + 1) ((9000 : Nat) : Int) 0 false (fmS O') Dv.Tab.none) := hidI D2
  have HO' : Hid (∀ k : Int, 0 ≤ k → k < ((9000 : Nat) : Int) → O' k = some (zs 512)) := hidI HO.out
  clear hO D2
  go_wp2_with fail
  refine (ropen_fresh 9000 D2'.out HO'.out (by omega) (by omega)).mono ?_
  rintro e w3 ⟨bp, rfl, H3⟩
  have f4 : Fr [] w3 (w3.alloc (.cells #[.int .i64 0, .int .i64 0, .int .i64 0, .int .i64 0] 108)) := (Fr.refl [] w3).alloc _
  obtain ⟨w4, hw4⟩ : ∃ w4, w3.alloc (.cells #[.int .i64 0, .int .i64 0, .int .i64 0, .int .i64 0] 108) = w4 := ⟨_, rfl⟩
  rw [hw4] at f4
  have h4 : w4.heap[w3.heap.size]? = some (.cells #[.int .i64 0, .int .i64 0, .int .i64 0, .int .i64 0] 108) := by rw [← hw4]; exact heap_alloc_new w3 _
  have f5 : Fr [w3.heap.size] w4 (w4.setRow w3.heap.size #[.int .i64 0, .int .i64 0, .int .i64 0, .int .i64 0]) := ⟨rfl, rfl, rfl, by simp, fun i _ hn => setRow_other w4 _ i _ (fun e => hn (by simp [e]))⟩
  obtain ⟨b, HB⟩ : ∃ b, Hid (Ab w (w4.setRow w3.heap.size #[.int .i64 0, .int .i64 0, .int .i64 0, .int .i64 0]) bp b [] ∧ Fresh b 9000 8 3 m321) := by
    obtain ⟨b, hb, B, fr, nw, f3⟩ := H3.out
    have F2 : Fr [] w w2 := f1'.then f2 (fun i hi hm => by simp at hm; omega)
    have F3 : Fr [] w w3 := F2.then f3 (fun i hi hm => by simp at hm; omega)
    have A4 : Ab w w4 bp b [] := ⟨B.quiet f4, F3.trans f4, fun k hk => by
      have l2 := F2.size
      rcases nw k hk with h | h
      · simp at h
        omega
      · omega, hb, fun p hp => nomatch hp⟩
    have aw := A4.bk.away h4 (by decide) (by decide) (by decide) (by decide)
    exact ⟨b, hidI ⟨A4.put f5 aw.1 aw.2.1 aw.2.2 F3.size (fun p hp => nomatch hp), fr⟩⟩
  have BX := hidI (idl_beg (⟨HB.out.1, HB.out.2.env (by omega) (by omega), HB.out.2.idle (by omega) (by omega)⟩ : Idl w _ bp [] 9000 m321 b Z0) (by decide))
  clear H3 D1' D2' HO HO' f2 f4 f5
  dsimp only
  go_upto_region 5 with (first | (refine wp_storeTold rfl _ _ rfl w3.heap.size rfl rfl h4 ?_) | (refine wp_storeTold rfl _ _ rfl w3.heap.size rfl rfl (heap_alloc_new w3 _) ?_; rw [hw4]))
  generalize w4.setRow w3.heap.size #[.int .i64 0, .int .i64 0, .int .i64 0, .int .i64 0] = w5 at HB BX ⊢
  clear hw4 h4
  go_wp2_with fail
  refine BX.out.mono ?_
  rintro e w6 ⟨rfl, b1, m1, P6⟩
  have hpg : b1.x.pages = 4498 := by
    have h1 := P6.out.1.env.pages
    omega
  have hA : b1.x.y.A = 0 := by
    have h1 := HB.out.2.A
    have h2 := HB.out.2.E
    rcases P6.out.2.2.2.1 with e | e <;> omega
  have hph : phN b1 [] = 0 := by
    rw [P6.out.2.2.1, HB.out.2.E]
    rfl
  have FX := sformat_in P6.out.1 5720 (by rw [hpg]; decide) (fun i _ _ => Z0_byte 0 i) (by rw [hph]; decide)
  rw [hpg, show mapsN 4498 = 2 from rfl] at FX
  have FX' := hidI FX
  have HPG := hidI (And.intro hpg (And.intro hA hph))
  clear FX hpg hA hph BX
  go_wp2_with fail
  refine FX'.out.mono ?_
  rintro e w7 ⟨r, rfl, P7⟩
  have hcap := P6.out.1.capn
  rw [HPG.out.2.1] at hcap
  rcases P7.out with ⟨rfl, hf, _⟩ | ⟨rfl, b7, H7, D7⟩
  · exfalso
    rw [HPG.out.2.2, hcap] at hf
    omega
  have o4 : ownN 4498 = 3 := rfl
  have S7 := hidI (show Spz 4498 (fmtV 4498 Z0) (fun k => decide (k < 3)) from fmt_spz (fun t _ => Z0_len _) (by omega) (fun p _ _ => rfl))
  have Q7 : Hid (b7.x.pages = 4498 ∧ phN b7 H7 ≤ 11968 ∧ capN b7 = 1835592) := hidI ⟨by rw [D7.tr.pages]; exact HPG.out.1, by have h1 := D7.ph; have h2 := HPG.out.2.2; omega, by rw [D7.tr.cap, hcap]; rfl⟩
  have HD7 := hidI D7
  have T1 := sfree_any D7.i.ab D7.i.tx.sh (by rw [Q7.out.1]; omega) (by rw [Q7.out.1]; omega) (by rw [Q7.out.1]; exact S7.out.sp.hd)
  rw [Q7.out.1, cntF_of S7.out.bits, show ((4498 - 3 : Nat) : Int) = 4495 from rfl] at T1
  have T1' := hidI T1
  clear T1 D7 P7 FX' hcap
  go_wp2_with fail
  refine T1'.out.mono ?_
  rintro e w8 ⟨b8, rfl, R8⟩
  have D8 := hidI (HD7.out.rd R8.out)
  have Q8 : Hid (b8.x.pages = 4498 ∧ phN b8 H7 ≤ 11968 ∧ capN b8 = 1835592) := hidI ⟨by rw [R8.out.tr.pages]; exact Q7.out.1, by have h1 := (R8.out.did HD7.out.i).ph; have h2 := Q7.out.2.1; omega, by rw [R8.out.tr.cap]; exact Q7.out.2.2⟩
  have T2 := hidI (stake_sure D8.out.i (p := 3) (by rw [Q8.out.1]; exact S7.out) (by rw [Q8.out.1]; exact low_of S7.out.bits (by omega)) (by have := Q8.out.2.1; omega) (by have h1 := Q8.out.2; omega))
  go_wp2_with fail
  refine T2.out.mono ?_
  rintro e w9 ⟨rfl, b9, H9, D9⟩
  have Q9 : Hid (b9.x.pages = 4498) := hidI (by rw [D9.out.tr.pages]; exact Q8.out.1)
  have S9 := hidI (S7.out.take (p := 3) (by omega) (by rw [o4]; omega) (D8.out.i.len (by rw [Q8.out.1]; omega)))
  have G9 := hidI (ab_pages D9.out.i.ab)
  rw [Q9.out] at G9
  have T3 := hidI (rd_taken D9.out.i.ab D9.out.i.tx.sh (by rw [Q9.out]; omega) (by rw [Q9.out]; omega) (by rw [Q9.out]; exact S9.out.sp.hd) 4497 (by rw [Q9.out]; omega))
  rw [S9.out.bits 4497 (by omega)] at T3
  clear T1' T2
  go_upto_region 10 with (first
    | (go_at_call 24; refine G9.out.mono ?_; rintro e wz ⟨rfl, hz⟩; rw [hz]; clear hz)
    | (go_at_call 147; refine T3.out.mono ?_; rintro e w10 ⟨b10, rfl, R10⟩))
  have Q10 : Hid (b10.x.pages = 4498) := hidI (by rw [R10.out.tr.pages]; exact Q9.out)
  have G10 := hidI (ab_pages R10.out.ab)
  rw [Q10.out] at G10
  have T4 := hidI (rd_takenOut R10.out.ab (R10.out.sh _ D9.out.i.tx.sh) (by rw [Q10.out]; omega) (by rw [Q10.out]; omega) (by rw [Q10.out]; exact S9.out.sp.hd) 4498 (Or.inr (by rw [Q10.out]; omega)))
  clear G9 T3
  go_upto_region 11 with (first
    | (go_at_call 24; refine G10.out.mono ?_; rintro e wz ⟨rfl, hz⟩; rw [hz]; clear hz)
    | (go_at_call 147; refine T4.out.mono ?_; rintro e w11 ⟨b11, rfl, R11⟩))
  have Q11 : Hid (b11.x.pages = 4498) := hidI (by rw [R11.out.tr.pages]; exact Q10.out)
  have G11 := hidI (ab_pages R11.out.ab)
  rw [Q11.out] at G11
  clear G10 T4
  go_wp2_with (go_at_call 24; refine G11.out.mono ?_; rintro e wz ⟨rfl, hz⟩; rw [hz]; clear hz)
  go_ret
  exact ⟨rfl, R11.out.ab.fr⟩
end Go.Proofs.YtopaeomjndblkaaGreat

