/-
  A cell is taken out as the document says: Delete.
-/
import Derived.Test.YtlfpoeimgoikkaaGRefI
namespace Go.Proofs.Ytlfpoeimgoikkaa
open Go.RowKit Go.Maps

set_option maxHeartbeats 1000000 in
set_option maxRecDepth 100000 in
theorem refDelete_no (w : World) (ad : Option Addr) (n c : Nat) (l : List UInt8) (s : Int) (h : SlAt w ad n c l) (hs : s < 0 ∨ ((cellsOf l).length : Int) ≤ s) :
    Calls Try.prog 48 #[.slice ad n c, .int .i64 s] w fun r w' => r = .returned (.bool false) ∧ Fr [] w w' := by
  go_enter Try.func48, Try.ntmps48
  go_wp2_with fail
  refine (of_any _ _ _ _ l h).mono ?_
  rintro e w1 (⟨hp, rfl, f1⟩ | ⟨cs, ad1, n1, cap1, E, hp, rfl, pg, hE, f1⟩)
  · by_cases hs0 : s < 0
    · clear hs hp
      go_wp2_with fail
      go_ret
      exact ⟨rfl, f1.alloc _⟩
    · clear hs hp
      go_wp2_with fail
      go_ret
      exact ⟨rfl, f1.alloc _⟩
  · have hc : (cellsOf l).length = n1 := by rw [cells_some hp, ← hE, rcells_length, pg.len]
    rw [hc] at hs
    by_cases hs0 : s < 0
    · clear hs hp hc
      go_wp2_with fail
      go_ret
      exact ⟨rfl, f1.alloc _⟩
    · have hs1 : (n1 : Int) ≤ s := by omega
      clear hs hp hc
      go_wp2_with fail
      go_ret
      exact ⟨rfl, f1.alloc _⟩

set_option maxHeartbeats 2000000 in
set_option maxRecDepth 100000 in
theorem refDelete_page (w : World) (g c : Nat) (l : List UInt8) (k : UInt8) (x : Nat) (cs : List (List UInt8)) (S : Nat) (h : RowB w g c l) (pg : Pg l k x cs) (hS : S < cs.length) :
    Calls Try.prog 48 #[.slice (some ⟨g, 0, none⟩) 512 c, .int .i64 S] w fun r w' => r = .returned (.bool true) ∧ RowB w' g c (pgB k x (delC cs S)) ∧ Fr [g] w w' := by
  have hsl := h.sl
  rw [pg.len] at hsl
  go_enter Try.func48, Try.ntmps48
  go_wp2_with fail
  refine (of_any _ _ _ _ l hsl).mono ?_
  rintro e w1 (⟨hp, rfl, f1⟩ | ⟨cs1, ad1, n1, cap1, E, hp, rfl, rp, hE, f1⟩)
  · rw [pg.page] at hp; cases hp
  · obtain rfl : cs1 = cs := by rw [pg.page] at hp; exact (Option.some.inj hp).symm
    have hel : E.length = n1 := rp.len
    have hnl : cs1.length = n1 := by rw [← hE, rcells_length, hel]
    have hfew := pg.few
    have hfits := pg.fits
    have hcap := rp.cap
    have hde := delC_elen cs1 S hS
    have hdl := delC_length cs1 S hS
    have RP := hidI rp
    have HE := hidI hE
    have PG := hidI pg
    have HR := hidI h
    have hSn : S < n1 := by rw [hnl] at hS; exact hS
    have hn1 : n1 ≤ 253 := by omega
    have HDE : Hid (elen (delC cs1 S) ≤ 506) := by show _ ≤ _; omega
    have HDL : Hid ((delC cs1 S).length + 1 = n1) := by show _ = _; omega
    clear hp rp hE pg h hnl hsl hS hfew hde hdl
    have y1 : ¬ (S : Int) < 0 := by omega
    have y2 : ¬ (n1 : Int) ≤ S := by omega
    go_upto_region 5 with fail
    have pb2 : PBox (w1.alloc (.cells #[.int .u8 ((byteAt l 0).toNat : Int), .int .i64 (num4 l 2 : Int), .slice ad1 n1 cap1] 75)) w1.heap.size (byteAt l 0).toNat (num4 l 2) (.slice ad1 n1 cap1) := heap_alloc_new w1 _
    have f2 := (Fr.refl [] w1).alloc (.cells #[.int .u8 ((byteAt l 0).toNat : Int), .int .i64 (num4 l 2 : Int), .slice ad1 n1 cap1] 75)
    have hxw : w.heap.size ≤ w1.heap.size := f1.size
    generalize w1.alloc (.cells #[.int .u8 ((byteAt l 0).toNat : Int), .int .i64 (num4 l 2 : Int), .slice ad1 n1 cap1] 75) = w2 at pb2 f2 ⊢
    have RP2 : Hid (RPage w2 ad1 n1 cap1 E) := RP.out.kept f2
    have F01 := hidI f1
    have F12 := hidI f2
    have hgl : g < w.heap.size := HR.out.lt
    obtain ⟨xb, HXB⟩ : ∃ xb, Hid (w1.heap.size = xb) := ⟨_, rfl⟩
    rw [HXB.out] at pb2 hxw ⊢
    have PB := hidI pb2
    have hxl : xb < w2.heap.size := pb2.lt
    obtain ⟨KB, HKB⟩ : ∃ KB : Int, Hid (((byteAt l 0).toNat : Int) = KB) := ⟨_, rfl⟩
    obtain ⟨NB, HNB⟩ : ∃ NB : Int, Hid ((num4 l 2 : Int) = NB) := ⟨_, rfl⟩
    rw [HKB.out, HNB.out] at PB pb2 ⊢
    have x2 := pb2.c2
    clear pb2 f1 f2
    have hvl : (rvals E).length = n1 := by rw [rvals_length]; exact hel
    obtain ⟨ba, bo, hAD, _⟩ := RP2.out.vals 0 (rvals E)[0] (List.getElem?_eq_getElem (by omega))
    subst hAD
    have z1 : (S : Int) ≤ cap1 := by omega
    have z2 : (S : Int) + 1 ≤ n1 := by omega
    have z3 : (S : Int) + 1 ≤ cap1 := by omega
    obtain ⟨dp, hdp, HDP⟩ : ∃ dp : Option Addr, (if cap1 = S + 1 then some (⟨ba, bo, none⟩ : Addr) else some ⟨ba, bo + (S + 1), none⟩) = dp ∧ Hid (ValsAt w2 dp ((rvals E).drop (S + 1)) ∧ (dp = none → False)) := by
      refine ⟨_, rfl, RP2.out.vals.ifV (fun e => List.eq_nil_of_length_eq_zero (by rw [List.length_drop, hvl]; omega)), fun e => ifV_some e⟩
    go_wp2_with (first
      | (refine wp_appV rfl _ _ rfl w2 none 0 0 [] rfl (OwnV.nil (Fr.refl _ _)) _ S _ ((rvals E).take S) rfl (by rw [List.length_take, hvl]; omega) (RP2.out.vals.take S) (fun u hu => rvals_one E u (List.mem_of_mem_take hu)) (by omega) (fun e => nomatch e) ?_; intro ad4 cap4 w4 o4; rw [Nat.zero_add, List.nil_append] at o4; have x4 := (PB.out.kept o4.fr (by simp)).c2)
      | (refine wp_appV rfl _ _ rfl w2 ad4 _ cap4 _ rfl o4 _ (n1 - (S + 1)) _ ((rvals E).drop (S + 1)) rfl (by rw [List.length_drop, hvl]) (HDP.out.1.kept o4.fr (by simp)) (fun u hu => rvals_one E u (List.mem_of_mem_drop hu)) (by omega) (fun e => absurd e HDP.out.2) ?_; intro ad6 cap6 w6 o6; have p6 := PB.out.kept o6.fr (by simp); have y0 := p6.c0; have y3 := p6.c1; have y4 := p6.c2; have y5 := p6.fz 2)
      | fail)
    obtain ⟨N6, HN6⟩ : ∃ N6, Hid (S + (n1 - (S + 1)) = N6) := ⟨_, rfl⟩
    rw [HN6.out] at o6 ⊢
    have hN6 : N6 < 256 := by rw [← HN6.out]; omega
    obtain ⟨f17, rp7, row7⟩ := del_ready F01.out F12.out RP.out HR.out PB.out HXB.out hxw o6 (by rw [delR_vals])
    have hcl7 : rcells (delR E S) = delC cs1 S := by rw [delR_cells, HE.out]
    have hnum7 : N6 = (delC cs1 S).length := by rw [← hcl7, rcells_length, rp7.len]
    have RP7 := hidI rp7
    have ROW7 := hidI row7
    have HCL7 := hidI hcl7
    have HNUM7 := hidI hnum7
    have F17 := hidI f17
    clear x2 o6 f17 rp7 row7 hcl7 hnum7 x4 y0 y3 y4 y5 p6 o4 hdp HDP z1 z2 z3
    generalize w6.setCell ⟨xb, 2, none⟩ (.slice ad6 N6 cap6) = w7 at RP7 ROW7 F17 ⊢
    refine (set_any _ g c l ROW7.out PG.out.len (byteAt l 0) KB NB HKB.out.symm (by rw [← HNB.out]; exact wf_small _ (by have := num4_lt l 2; omega)) ad6 N6 cap6 _ RP7.out hN6 (by rw [HCL7.out]; have := HDE.out; omega)).mono ?_
    rintro e w8 ⟨ok, rfl, (⟨h1, h2, h3, rfl, row, f⟩ | ⟨hno, rfl, row, f⟩)⟩
    · have ROW := hidI row
      clear row
      go_wp2_with fail
      go_ret
      refine ⟨rfl, ?_, ((F01.out.trans F17.out).mono (M := [g]) (by simp)).trans f⟩
      have := ROW.out
      rw [HCL7.out, PG.out.kind, ← HNB.out, PG.out.next, HNUM7.out, hdX_pgB] at this
      exact this
    · exact absurd ⟨by rw [HCL7.out]; have := HDE.out; omega, by rw [← HNB.out]; omega, by rw [← HNB.out]; have := num4_lt l 2; omega⟩ hno
end Go.Proofs.Ytlfpoeimgoikkaa
