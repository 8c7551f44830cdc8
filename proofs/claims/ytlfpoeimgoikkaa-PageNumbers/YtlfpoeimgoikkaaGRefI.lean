/-
  A cell is put in as the document says: Insert.
-/
import Derived.Test.YtlfpoeimgoikkaaGRefW
import Derived.Deep.Cut
namespace Go.Proofs.Ytlfpoeimgoikkaa
open Go.RowKit Go.Maps

theorem one_val (w : World) (v : Value) : ValsAt (w.alloc (.cells #[v] 22)) (some ⟨w.heap.size, 0, none⟩) [v] := by
  intro j u hu
  cases j with
  | zero =>
    simp at hu
    subst hu
    exact ⟨_, 0, rfl, cell_of_row _ _ 0 _ _ _ (heap_alloc_new w _)⟩
  | succ j => simp at hu
theorem ValsAt.ifV {w : World} {g off k c : Nat} {ys : List Value} (h : ValsAt w (some ⟨g, off, none⟩) ys) (hc : c = k → ys.drop k = []) : ValsAt w (if c = k then some ⟨g, off, none⟩ else some ⟨g, off + k, none⟩) (ys.drop k) := by
  split
  · next e => rw [hc e]; exact ValsAt.nil _ _
  · exact h.drop k
theorem ifV_some {g off k c : Nat} {P : Prop} (h : (if c = k then some (⟨g, off, none⟩ : Addr) else some ⟨g, off + k, none⟩) = none) : P := by split at h <;> cases h
def insR (E : List RCell) (s : Nat) (e : RCell) : List RCell := E.take s ++ e :: E.drop s
def delR (E : List RCell) (s : Nat) : List RCell := E.take s ++ E.drop (s + 1)
theorem insR_cells (E : List RCell) (s : Nat) (e : RCell) : rcells (insR E s e) = insC (rcells E) s e.l := by simp [rcells, insR, insC]
theorem insR_vals (E : List RCell) (s : Nat) (e : RCell) : rvals (insR E s e) = (rvals E).take s ++ [e.val] ++ (rvals E).drop s := by simp [rvals, insR]
theorem delR_cells (E : List RCell) (s : Nat) : rcells (delR E s) = delC (rcells E) s := by simp [rcells, delR, delC]
theorem delR_vals (E : List RCell) (s : Nat) : rvals (delR E s) = (rvals E).take s ++ (rvals E).drop (s + 1) := by simp [rvals, delR]
theorem insR_page {w0 w w6 : World} {ad ad6 : Option Addr} {n cap n6 cap6 S : Nat} {E : List RCell} {e : RCell} {xs : List Value} (h : RPage w ad n cap E) (he : e.ok w) (f : Fr [] w w6) (o6 : OwnV 22 w0 w6 ad6 n6 cap6 xs) (hx : xs = rvals (insR E S e)) : RPage w6 ad6 n6 cap6 (insR E S e) := by
  subst hx
  refine ⟨by have := o6.len; rw [rvals_length] at this; exact this, ?_, o6.vals, ?_, ?_⟩
  · rcases o6.shape with ⟨_, h1, _⟩ | ⟨g, _, h1, _⟩ <;> omega
  · intro x hx
    simp only [insR, List.mem_append, List.mem_cons] at hx
    rcases hx with hx | rfl | hx
    · exact (h.ok x (List.mem_of_mem_take hx)).kept f
    · exact he.kept f
    · exact (h.ok x (List.mem_of_mem_drop hx)).kept f
  · intro e0
    rcases o6.shape with ⟨_, _, h1, _⟩ | ⟨g, h1, _⟩
    · exact h1
    · rw [h1] at e0; cases e0
theorem delR_page {w0 w w6 : World} {ad ad6 : Option Addr} {n cap n6 cap6 S : Nat} {E : List RCell} {xs : List Value} (h : RPage w ad n cap E) (f : Fr [] w w6) (o6 : OwnV 22 w0 w6 ad6 n6 cap6 xs) (hx : xs = rvals (delR E S)) : RPage w6 ad6 n6 cap6 (delR E S) := by
  subst hx
  refine ⟨by have := o6.len; rw [rvals_length] at this; exact this, ?_, o6.vals, ?_, ?_⟩
  · rcases o6.shape with ⟨_, h1, _⟩ | ⟨g, _, h1, _⟩ <;> omega
  · intro x hx
    simp only [delR, List.mem_append] at hx
    rcases hx with hx | hx
    · exact (h.ok x (List.mem_of_mem_take hx)).kept f
    · exact (h.ok x (List.mem_of_mem_drop hx)).kept f
  · intro e0
    rcases o6.shape with ⟨_, _, h1, _⟩ | ⟨g, h1, _⟩
    · exact h1
    · rw [h1] at e0; cases e0

theorem ins_ready {w w1 w2 w6 : World} {g c xb n cap N6 cap6 S : Nat} {l : List UInt8} {K X : Int} {v : Value} {ad ad6 : Option Addr} {E : List RCell} {e : RCell} {xs : List Value} (f01 : Fr [] w w1) (f12 : Fr [] w1 w2) (rp : RPage w1 ad n cap E) (he : e.ok w1) (hr : RowB w g c l) (pb : PBox w2 xb K X v) (hxb : w1.heap.size = xb) (hxw : w.heap.size ≤ xb)
    (o6 : OwnV 22 w2 w6 ad6 N6 cap6 xs) (hx : xs = rvals (insR E S e)) :
    Fr [] w1 (w6.setCell ⟨xb, 2, none⟩ (.slice ad6 N6 cap6)) ∧ RPage (w6.setCell ⟨xb, 2, none⟩ (.slice ad6 N6 cap6)) ad6 N6 cap6 (insR E S e) ∧ RowB (w6.setCell ⟨xb, 2, none⟩ (.slice ad6 N6 cap6)) g c l := by
  have f16 : Fr [] w1 w6 := f12.trans o6.fr
  have f17 : Fr [] w1 (w6.setCell ⟨xb, 2, none⟩ (.slice ad6 N6 cap6)) := f16.setCell _ _ (fun h => absurd h (by simp; omega))
  have f67 : Fr [xb] w6 (w6.setCell ⟨xb, 2, none⟩ (.slice ad6 N6 cap6)) := (Fr.refl _ _).setCell _ _ (by simp)
  have pb6 := pb.kept o6.fr (by simp)
  have o7 : OwnV 22 w1 (w6.setCell ⟨xb, 2, none⟩ (.slice ad6 N6 cap6)) ad6 N6 cap6 xs := by
    refine (o6.from f12).keptL f67 (fun g2 e2 hm => ?_) f17
    have hg2 : g2 = xb := by simpa using hm
    subst hg2
    subst e2
    rcases o6.own.2 with ⟨hv, _⟩ | ⟨g', c', cur, hv, _, hh, _⟩
    · cases hv
    · cases hv
      exact pbox_ne pb6 hh rfl
  exact ⟨f17, insR_page rp he f17 o7 hx, hr.kept (f01.trans f17) (by simp)⟩
theorem del_ready {w w1 w2 w6 : World} {g c xb n cap N6 cap6 S : Nat} {l : List UInt8} {K X : Int} {v : Value} {ad ad6 : Option Addr} {E : List RCell} {xs : List Value} (f01 : Fr [] w w1) (f12 : Fr [] w1 w2) (rp : RPage w1 ad n cap E) (hr : RowB w g c l) (pb : PBox w2 xb K X v) (hxb : w1.heap.size = xb) (hxw : w.heap.size ≤ xb)
    (o6 : OwnV 22 w2 w6 ad6 N6 cap6 xs) (hx : xs = rvals (delR E S)) :
    Fr [] w1 (w6.setCell ⟨xb, 2, none⟩ (.slice ad6 N6 cap6)) ∧ RPage (w6.setCell ⟨xb, 2, none⟩ (.slice ad6 N6 cap6)) ad6 N6 cap6 (delR E S) ∧ RowB (w6.setCell ⟨xb, 2, none⟩ (.slice ad6 N6 cap6)) g c l := by
  have f16 : Fr [] w1 w6 := f12.trans o6.fr
  have f17 : Fr [] w1 (w6.setCell ⟨xb, 2, none⟩ (.slice ad6 N6 cap6)) := f16.setCell _ _ (fun h => absurd h (by simp; omega))
  have f67 : Fr [xb] w6 (w6.setCell ⟨xb, 2, none⟩ (.slice ad6 N6 cap6)) := (Fr.refl _ _).setCell _ _ (by simp)
  have pb6 := pb.kept o6.fr (by simp)
  have o7 : OwnV 22 w1 (w6.setCell ⟨xb, 2, none⟩ (.slice ad6 N6 cap6)) ad6 N6 cap6 xs := by
    refine (o6.from f12).keptL f67 (fun g2 e2 hm => ?_) f17
    have hg2 : g2 = xb := by simpa using hm
    subst hg2
    subst e2
    rcases o6.own.2 with ⟨hv, _⟩ | ⟨g', c', cur, hv, _, hh, _⟩
    · cases hv
    · cases hv
      exact pbox_ne pb6 hh rfl
  exact ⟨f17, delR_page rp f17 o7 hx, hr.kept (f01.trans f17) (by simp)⟩

set_option maxHeartbeats 1000000 in
set_option maxRecDepth 100000 in
theorem refInsert_shape (w : World) (ad : Option Addr) (n c : Nat) (l : List UInt8) (s : Int) (v : Value) (h : SlAt w ad n c l) (hk : okP l = false) :
    Calls Try.prog 47 #[.slice ad n c, .int .i64 s, v] w fun r w' => r = .returned (.int .i64 4) ∧ Fr [] w w' := by
  have HK := hidI hk
  clear hk
  go_enter Try.func47, Try.ntmps47
  go_wp2_with fail
  refine (of_any _ _ _ _ l h).mono ?_
  rintro e w1 (⟨hp, rfl, f1⟩ | ⟨cs, ad1, n1, cap1, E, hp, rfl, pg, hE, f1⟩)
  · clear hp
    go_wp2_with fail
    go_ret
    exact ⟨rfl, f1.alloc _⟩
  · exact absurd HK.out (by rw [(okP_some hp).1]; simp)

set_option maxHeartbeats 1000000 in
set_option maxRecDepth 100000 in
theorem refInsert_arg (w : World) (g c : Nat) (l : List UInt8) (k : UInt8) (x : Nat) (cs : List (List UInt8)) (s : Int) (v : Value) (h : RowB w g c l) (pg : Pg l k x cs) (hs : s < 0 ∨ (cs.length : Int) < s) :
    Calls Try.prog 47 #[.slice (some ⟨g, 0, none⟩) 512 c, .int .i64 s, v] w fun r w' => r = .returned (.int .i64 2) ∧ Fr [] w w' := by
  have hsl := h.sl
  rw [pg.len] at hsl
  go_enter Try.func47, Try.ntmps47
  go_wp2_with fail
  refine (of_any _ _ _ _ l hsl).mono ?_
  rintro e w1 (⟨hp, rfl, f1⟩ | ⟨cs1, ad1, n1, cap1, E, hp, rfl, rp, hE, f1⟩)
  · rw [pg.page] at hp; cases hp
  · obtain rfl : cs1 = cs := by rw [pg.page] at hp; exact (Option.some.inj hp).symm
    have hcl : cs1.length = n1 := by rw [← hE, rcells_length, rp.len]
    rw [hcl] at hs
    clear hp hE hcl rp
    by_cases hs0 : s < 0
    · clear hs
      go_wp2_with fail
      go_ret
      exact ⟨rfl, f1.alloc _⟩
    · have hs1 : (n1 : Int) < s := by omega
      clear hs
      go_wp2_with fail
      go_ret
      exact ⟨rfl, f1.alloc _⟩

set_option maxHeartbeats 2000000 in
set_option maxRecDepth 100000 in
theorem refInsert_page (w : World) (g c : Nat) (l : List UInt8) (k : UInt8) (x : Nat) (cs : List (List UInt8)) (S : Nat) (ca : Option Addr) (cl cc : Nat) (cell : List UInt8) (h : RowB w g c l) (pg : Pg l k x cs) (hS : S ≤ cs.length) (hc : SlAt w ca cl cc cell) (hcn : ca = none → cc = 0) (hcl : cl ≤ 5000) :
    Calls Try.prog 47 #[.slice (some ⟨g, 0, none⟩) 512 c, .int .i64 S, .slice ca cl cc] w fun r w' =>
      (elen cs + 2 + cl ≤ 506 ∧ r = .returned (.int .i64 0) ∧ RowB w' g c (pgB k x (insC cs S cell)) ∧ Fr [g] w w') ∨ (¬ elen cs + 2 + cl ≤ 506 ∧ r = .returned (.int .i64 5) ∧ RowB w' g c l ∧ Fr [] w w') := by
  have hsl := h.sl
  rw [pg.len] at hsl
  go_enter Try.func47, Try.ntmps47
  go_wp2_with fail
  refine (of_any _ _ _ _ l hsl).mono ?_
  rintro e w1 (⟨hp, rfl, f1⟩ | ⟨cs1, ad1, n1, cap1, E, hp, rfl, rp, hE, f1⟩)
  · rw [pg.page] at hp; cases hp
  · obtain rfl : cs1 = cs := by rw [pg.page] at hp; exact (Option.some.inj hp).symm
    have hel : E.length = n1 := rp.len
    have hnl : cs1.length = n1 := by rw [← hE, rcells_length, hel]
    have hfew := pg.few
    have hfits := pg.fits
    have hcap := rp.cap
    have hrn := rp.nil
    have HCELL : Hid ((⟨ca, cl, cc, cell⟩ : RCell).ok w1) := ⟨hc.len, hc.bytes.kept f1 (by simp), fun e => ⟨by have h1 : cc = 0 := hcn e; have h2 : cl ≤ cc := hc.cap; show cl = 0; omega, hcn e⟩⟩
    have HCLN : Hid (cell.length = cl) := hc.len
    have RP := hidI rp
    have HE := hidI hE
    have PG := hidI pg
    have HR := hidI h
    have HNL := hidI hnl
    have HS := hidI hS
    have hSn : S ≤ n1 := by rw [hnl] at hS; exact hS
    have hn1 : n1 ≤ 253 := by omega
    clear hp rp hE pg h hnl hsl hS hc hcn hfew
    have y1 : ¬ (S : Int) < 0 := by omega
    have y2 : ¬ (n1 : Int) < S := by omega
    go_upto_region 7 with fail
    have pb2 : PBox (w1.alloc (.cells #[.int .u8 ((byteAt l 0).toNat : Int), .int .i64 (num4 l 2 : Int), .slice ad1 n1 cap1] 75)) w1.heap.size (byteAt l 0).toNat (num4 l 2) (.slice ad1 n1 cap1) := heap_alloc_new w1 _
    have f2 := (Fr.refl [] w1).alloc (.cells #[.int .u8 ((byteAt l 0).toNat : Int), .int .i64 (num4 l 2 : Int), .slice ad1 n1 cap1] 75)
    have hxw : w.heap.size ≤ w1.heap.size := f1.size
    generalize w1.alloc (.cells #[.int .u8 ((byteAt l 0).toNat : Int), .int .i64 (num4 l 2 : Int), .slice ad1 n1 cap1] 75) = w2 at pb2 f2 ⊢
    have RP2 : Hid (RPage w2 ad1 n1 cap1 E) := RP.out.kept f2
    have HC2 : Hid ((⟨ca, cl, cc, cell⟩ : RCell).ok w2) := HCELL.out.kept f2
    have F02 : Hid (Fr [] w w2) := f1.trans f2
    have HR2 : Hid (RowB w2 g c l) := HR.out.kept (f1.trans f2) (by simp)
    have F01 := hidI f1
    have F12 := hidI f2
    have hgl : g < w.heap.size := HR.out.lt
    obtain ⟨xb, HXB⟩ : ∃ xb, Hid (w1.heap.size = xb) := ⟨_, rfl⟩
    rw [HXB.out] at pb2 hxw ⊢
    have PB := hidI pb2
    have hxl : xb < w2.heap.size := pb2.lt
    obtain ⟨KB, HKB⟩ : ∃ KB : Int, Hid (((byteAt l 0).toNat : Int) = KB) := ⟨_, rfl⟩
    obtain ⟨NB, HNB⟩ : ∃ NB : Int, Hid ((num4 l 2 : Int) = NB) := ⟨_, rfl⟩
    rw [HKB.out, HNB.out] at PB pb2 ⊢
    have x2 := pb2.c2
    clear pb2 f1 f2
    have hvl : (rvals E).length = n1 := by rw [rvals_length]; exact hel
    have hxv : (⟨ca, cl, cc, cell⟩ : RCell).val = .slice ca cl cc := rfl
    by_cases hn0 : n1 = 0
    · subst hn0
      obtain rfl : S = 0 := by omega
      obtain rfl : E = [] := List.eq_nil_of_length_eq_zero hel
      rcases hae : ad1 with _ | a1
      · subst hae
        obtain rfl : cap1 = 0 := hrn rfl
        go_wp2_with (first
          | (refine wp_appV rfl _ _ rfl w2 none 0 0 [] rfl (OwnV.nil (Fr.refl _ _)) none 0 0 [] rfl rfl (ValsAt.nil _ _) (by simp) (by omega) (fun _ => ⟨rfl, rfl⟩) ?_; intro ad4 cap4 w4 o4; have x4 := (PB.out.kept o4.fr (by simp)).c2)
          | (refine wp_appV rfl _ _ rfl w2 ad4 _ cap4 _ rfl (o4.kept ((Fr.refl [] _).alloc _)) _ 1 _ [.slice ca cl cc] rfl rfl (one_val _ _) (by simp [Value.oneCell']) (by omega) (fun e => nomatch e) ?_; intro ad5 cap5 w5 o5; have x5 := (PB.out.kept o5.fr (by simp)).c2)
          | (refine wp_appV rfl _ _ rfl w2 ad5 _ cap5 _ rfl o5 none 0 0 [] rfl rfl (ValsAt.nil _ _) (by simp) (by omega) (fun _ => ⟨rfl, rfl⟩) ?_; intro ad6 cap6 w6 o6; have p6 := PB.out.kept o6.fr (by simp); have y0 := p6.c0; have y3 := p6.c1; have y4 := p6.c2; have y5 := p6.fz 2)
          | fail)
        have o7 : OwnV 22 w2 w6 ad6 1 cap6 (rvals (insR [] 0 ⟨ca, cl, cc, cell⟩)) := o6
        obtain ⟨f17, rp7, row7⟩ := ins_ready F01.out F12.out RP.out HCELL.out HR.out PB.out HXB.out hxw o7 rfl
        have hcl7 : rcells (insR [] 0 ⟨ca, cl, cc, cell⟩) = insC cs1 0 cell := by rw [insR_cells, HE.out]
        have hel7 : elen (rcells (insR [] 0 ⟨ca, cl, cc, cell⟩)) = elen cs1 + 2 + cl := by rw [hcl7, insC_elen, HCLN.out]
        have hnum7 : 1 = (insC cs1 0 cell).length := by rw [← hcl7, rcells_length, rp7.len]
        have RP7 := hidI rp7
        have ROW7 := hidI row7
        have HCL7 := hidI hcl7
        have HEL7 := hidI hel7
        have HNUM7 := hidI hnum7
        have F17 := hidI f17
        clear x2 o6 o7 f17 rp7 row7 hcl7 hel7 hnum7 x4 x5 y0 y3 y4 y5 p6 o4 o5
        generalize w6.setCell ⟨xb, 2, none⟩ (.slice ad6 1 cap6) = w7 at RP7 ROW7 F17 ⊢
        refine (set_any _ g c l ROW7.out PG.out.len (byteAt l 0) KB NB HKB.out.symm (by rw [← HNB.out]; exact wf_small _ (by have := num4_lt l 2; omega)) ad6 1 cap6 _ RP7.out (by omega) (by rw [HEL7.out]; omega)).mono ?_
        rintro e w8 ⟨ok, rfl, (⟨h1, h2, h3, rfl, row, f⟩ | ⟨hno, rfl, row, f⟩)⟩
        · have ROW := hidI row
          clear row
          go_wp2_with fail
          go_ret
          refine Or.inl ⟨by rw [HEL7.out] at h1; omega, rfl, ?_, ((F01.out.trans F17.out).mono (M := [g]) (by simp)).trans f⟩
          have := ROW.out
          rw [HCL7.out, PG.out.kind, ← HNB.out, PG.out.next, HNUM7.out, hdX_pgB] at this
          exact this
        · have ROW := hidI row
          have HN : Hid (¬ elen cs1 + 2 + cl ≤ 506) := fun hh => hno ⟨by rw [HEL7.out]; omega, by rw [← HNB.out]; omega, by rw [← HNB.out]; have := num4_lt l 2; omega⟩
          clear row hno
          go_wp2_with fail
          go_ret
          exact Or.inr ⟨HN.out, rfl, ROW.out, (F01.out.trans F17.out).trans f⟩
      · subst hae
        go_wp2_with (first
          | (refine wp_appV rfl _ _ rfl w2 none 0 0 [] rfl (OwnV.nil (Fr.refl _ _)) _ 0 _ [] rfl rfl (ValsAt.nil _ _) (by simp) (by omega) (fun e => nomatch e) ?_; intro ad4 cap4 w4 o4; have x4 := (PB.out.kept o4.fr (by simp)).c2)
          | (refine wp_appV rfl _ _ rfl w2 ad4 _ cap4 _ rfl (o4.kept ((Fr.refl [] _).alloc _)) _ 1 _ [.slice ca cl cc] rfl rfl (one_val _ _) (by simp [Value.oneCell']) (by omega) (fun e => nomatch e) ?_; intro ad5 cap5 w5 o5; have x5 := (PB.out.kept o5.fr (by simp)).c2)
          | (refine wp_appV rfl _ _ rfl w2 ad5 _ cap5 _ rfl o5 _ 0 _ [] rfl rfl (ValsAt.nil _ _) (by simp) (by omega) (fun e => nomatch e) ?_; intro ad6 cap6 w6 o6; have p6 := PB.out.kept o6.fr (by simp); have y0 := p6.c0; have y3 := p6.c1; have y4 := p6.c2; have y5 := p6.fz 2)
          | fail)
        have o7 : OwnV 22 w2 w6 ad6 1 cap6 (rvals (insR [] 0 ⟨ca, cl, cc, cell⟩)) := o6
        obtain ⟨f17, rp7, row7⟩ := ins_ready F01.out F12.out RP.out HCELL.out HR.out PB.out HXB.out hxw o7 rfl
        have hcl7 : rcells (insR [] 0 ⟨ca, cl, cc, cell⟩) = insC cs1 0 cell := by rw [insR_cells, HE.out]
        have hel7 : elen (rcells (insR [] 0 ⟨ca, cl, cc, cell⟩)) = elen cs1 + 2 + cl := by rw [hcl7, insC_elen, HCLN.out]
        have hnum7 : 1 = (insC cs1 0 cell).length := by rw [← hcl7, rcells_length, rp7.len]
        have RP7 := hidI rp7
        have ROW7 := hidI row7
        have HCL7 := hidI hcl7
        have HEL7 := hidI hel7
        have HNUM7 := hidI hnum7
        have F17 := hidI f17
        clear x2 o6 o7 f17 rp7 row7 hcl7 hel7 hnum7 x4 x5 y0 y3 y4 y5 p6 o4 o5
        generalize w6.setCell ⟨xb, 2, none⟩ (.slice ad6 1 cap6) = w7 at RP7 ROW7 F17 ⊢
        refine (set_any _ g c l ROW7.out PG.out.len (byteAt l 0) KB NB HKB.out.symm (by rw [← HNB.out]; exact wf_small _ (by have := num4_lt l 2; omega)) ad6 1 cap6 _ RP7.out (by omega) (by rw [HEL7.out]; omega)).mono ?_
        rintro e w8 ⟨ok, rfl, (⟨h1, h2, h3, rfl, row, f⟩ | ⟨hno, rfl, row, f⟩)⟩
        · have ROW := hidI row
          clear row
          go_wp2_with fail
          go_ret
          refine Or.inl ⟨by rw [HEL7.out] at h1; omega, rfl, ?_, ((F01.out.trans F17.out).mono (M := [g]) (by simp)).trans f⟩
          have := ROW.out
          rw [HCL7.out, PG.out.kind, ← HNB.out, PG.out.next, HNUM7.out, hdX_pgB] at this
          exact this
        · have ROW := hidI row
          have HN : Hid (¬ elen cs1 + 2 + cl ≤ 506) := fun hh => hno ⟨by rw [HEL7.out]; omega, by rw [← HNB.out]; omega, by rw [← HNB.out]; have := num4_lt l 2; omega⟩
          clear row hno
          go_wp2_with fail
          go_ret
          exact Or.inr ⟨HN.out, rfl, ROW.out, (F01.out.trans F17.out).trans f⟩
    · obtain ⟨ba, bo, hAD, _⟩ := RP2.out.vals 0 (rvals E)[0] (List.getElem?_eq_getElem (by omega))
      subst hAD
      have z1 : (S : Int) ≤ cap1 := by omega
      have z2 : (S : Int) ≤ n1 := by omega
      obtain ⟨dp, hdp, HDP⟩ : ∃ dp : Option Addr, (if cap1 = S then some (⟨ba, bo, none⟩ : Addr) else some ⟨ba, bo + S, none⟩) = dp ∧ Hid (ValsAt w2 dp ((rvals E).drop S) ∧ (dp = none → False)) := by
        refine ⟨_, rfl, RP2.out.vals.ifV (fun e => List.eq_nil_of_length_eq_zero (by rw [List.length_drop, hvl]; omega)), fun e => ifV_some e⟩
      go_wp2_with (first
        | (refine wp_appV rfl _ _ rfl w2 none 0 0 [] rfl (OwnV.nil (Fr.refl _ _)) _ S _ ((rvals E).take S) rfl (by rw [List.length_take, hvl]; omega) (RP2.out.vals.take S) (fun u hu => rvals_one E u (List.mem_of_mem_take hu)) (by omega) (fun e => nomatch e) ?_; intro ad4 cap4 w4 o4; rw [Nat.zero_add, List.nil_append] at o4; have x4 := (PB.out.kept o4.fr (by simp)).c2)
        | (refine wp_appV rfl _ _ rfl w2 ad4 _ cap4 _ rfl (o4.kept ((Fr.refl [] _).alloc _)) _ 1 _ [.slice ca cl cc] rfl rfl (one_val _ _) (by simp [Value.oneCell']) (by omega) (fun e => nomatch e) ?_; intro ad5 cap5 w5 o5; have x5 := (PB.out.kept o5.fr (by simp)).c2)
        | (refine wp_appV rfl _ _ rfl w2 ad5 _ cap5 _ rfl o5 _ (n1 - S) _ ((rvals E).drop S) rfl (by rw [List.length_drop, hvl]) (HDP.out.1.kept o5.fr (by simp)) (fun u hu => rvals_one E u (List.mem_of_mem_drop hu)) (by omega) (fun e => absurd e HDP.out.2) ?_; intro ad6 cap6 w6 o6; have p6 := PB.out.kept o6.fr (by simp); have y0 := p6.c0; have y3 := p6.c1; have y4 := p6.c2; have y5 := p6.fz 2)
        | fail)
      obtain ⟨N6, HN6⟩ : ∃ N6, Hid (S + 1 + (n1 - S) = N6) := ⟨_, rfl⟩
      rw [HN6.out] at o6 ⊢
      have hN6 : N6 < 256 := by rw [← HN6.out]; omega
      obtain ⟨f17, rp7, row7⟩ := ins_ready F01.out F12.out RP.out HCELL.out HR.out PB.out HXB.out hxw o6 (by rw [insR_vals]; rfl)
      have hcl7 : rcells (insR E S ⟨ca, cl, cc, cell⟩) = insC cs1 S cell := by rw [insR_cells, HE.out]
      have hel7 : elen (rcells (insR E S ⟨ca, cl, cc, cell⟩)) = elen cs1 + 2 + cl := by rw [hcl7, insC_elen, HCLN.out]
      have hnum7 : N6 = (insC cs1 S cell).length := by rw [← hcl7, rcells_length, rp7.len]
      have RP7 := hidI rp7
      have ROW7 := hidI row7
      have HCL7 := hidI hcl7
      have HEL7 := hidI hel7
      have HNUM7 := hidI hnum7
      have F17 := hidI f17
      clear x2 o6 f17 rp7 row7 hcl7 hel7 hnum7 x4 x5 y0 y3 y4 y5 p6 o4 o5 hdp HDP z1 z2
      generalize w6.setCell ⟨xb, 2, none⟩ (.slice ad6 N6 cap6) = w7 at RP7 ROW7 F17 ⊢
      refine (set_any _ g c l ROW7.out PG.out.len (byteAt l 0) KB NB HKB.out.symm (by rw [← HNB.out]; exact wf_small _ (by have := num4_lt l 2; omega)) ad6 N6 cap6 _ RP7.out hN6 (by rw [HEL7.out]; omega)).mono ?_
      rintro e w8 ⟨ok, rfl, (⟨h1, h2, h3, rfl, row, f⟩ | ⟨hno, rfl, row, f⟩)⟩
      · have ROW := hidI row
        clear row
        go_wp2_with fail
        go_ret
        refine Or.inl ⟨by rw [HEL7.out] at h1; omega, rfl, ?_, ((F01.out.trans F17.out).mono (M := [g]) (by simp)).trans f⟩
        have := ROW.out
        rw [HCL7.out, PG.out.kind, ← HNB.out, PG.out.next, HNUM7.out, hdX_pgB] at this
        exact this
      · have ROW := hidI row
        have HN : Hid (¬ elen cs1 + 2 + cl ≤ 506) := fun hh => hno ⟨by rw [HEL7.out]; omega, by rw [← HNB.out]; omega, by rw [← HNB.out]; have := num4_lt l 2; omega⟩
        clear row hno
        go_wp2_with fail
        go_ret
        exact Or.inr ⟨HN.out, rfl, ROW.out, (F01.out.trans F17.out).trans f⟩
end Go.Proofs.Ytlfpoeimgoikkaa
