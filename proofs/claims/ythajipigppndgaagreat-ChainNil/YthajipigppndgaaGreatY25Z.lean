/-
  A cell is put in: the program's Insert.
-/
import Derived.Test.YthajipigppndgaaGreatY24Z
namespace Go.Proofs.YthajipigppndgaaGreat.Pg
open Go.RowKit Go.Maps

theorem d_boxed {w wr w5 w6 : World} {bs ba bb : Nat} {va vb : Value} {la lb : List UInt8} {AD : Option Addr} {N CAP : Nat} {S : List SpE} (h : DInv w wr bs ba bb va vb la lb AD N CAP S) (f5 : Fr [] wr w5) (ob : Obj) (f6 : Fr (Value.ownBlock (.slice AD N CAP)).toList (w5.alloc ob) w6) :
    w6.cell? ⟨bs, 0, none⟩ = some (.slice AD N CAP) ∧ w6.frozen? ⟨bs, 0, none⟩ = false := by
  have h5 := h.kept (f5.alloc ob)
  have c6 : w6.heap[bs]? = some (.cells #[.slice AD N CAP] 122) := f6.same (fun hm => by obtain ⟨cur, hc⟩ := ownSp_cells h5.own hm; exact heap_ne h5.cell hc (by decide) rfl) h5.cell
  exact ⟨cell_of_row w6 bs 0 _ _ _ c6, frozen_of_row w6 bs 0 _ _ c6⟩
theorem DInv.cs {w wr : World} {bs ba bb : Nat} {va vb : Value} {la lb : List UInt8} {AD : Option Addr} {N CAP : Nat} {S : List SpE} (h : DInv w wr bs ba bb va vb la lb AD N CAP S) : wr.cell? ⟨bs, 0, none⟩ = some (.slice AD N CAP) := cell_of_row wr bs 0 _ _ _ h.cell
theorem DInv.ca {w wr : World} {bs ba bb : Nat} {va vb : Value} {la lb : List UInt8} {AD : Option Addr} {N CAP : Nat} {S : List SpE} (h : DInv w wr bs ba bb va vb la lb AD N CAP S) : wr.cell? ⟨ba, 0, none⟩ = some va := cell_of_row wr ba 0 _ _ _ h.boxa
theorem DInv.cb {w wr : World} {bs ba bb : Nat} {va vb : Value} {la lb : List UInt8} {AD : Option Addr} {N CAP : Nat} {S : List SpE} (h : DInv w wr bs ba bb va vb la lb AD N CAP S) : wr.cell? ⟨bb, 0, none⟩ = some vb := cell_of_row wr bb 0 _ _ _ h.boxb
theorem DInv.lts {w wr : World} {bs ba bb : Nat} {va vb : Value} {la lb : List UInt8} {AD : Option Addr} {N CAP : Nat} {S : List SpE} (h : DInv w wr bs ba bb va vb la lb AD N CAP S) : bs < wr.heap.size ∧ ba < wr.heap.size ∧ bb < wr.heap.size :=
  ⟨(Array.getElem?_eq_some_iff.1 h.cell).1, (Array.getElem?_eq_some_iff.1 h.boxa).1, (Array.getElem?_eq_some_iff.1 h.boxb).1⟩

set_option maxHeartbeats 20000000 in
set_option maxRecDepth 100000 in
theorem putSp_any (w wr : World) (bs ba bb g1 o1 c1 g2 o2 c2 : Nat) (la lb : List UInt8) (AD : Option Addr) (N CAP : Nat) (S : List SpE) (iv : DInv w wr bs ba bb (.slice (some ⟨g1, o1, none⟩) 512 c1) (.slice (some ⟨g2, o2, none⟩) 512 c2) la lb AD N CAP S) (h1 : At512 wr g1 o1 c1 la) (h2 : At512 wr g2 o2 c2 lb) (f t : Nat) (hft : f < t) (ht : t ≤ 512) (hN : N ≤ 60) :
    Calls Tryz.prog 229 #[.int .i64 f, .int .i64 t, .pointer (some ⟨bs, 0, none⟩), .pointer (some ⟨ba, 0, none⟩), .pointer (some ⟨bb, 0, none⟩)] wr fun r w' =>
      r = .returned (.tuple #[]) ∧ ∃ AD' CAP' bo bn, DInv w w' bs ba bb (.slice (some ⟨g1, o1, none⟩) 512 c1) (.slice (some ⟨g2, o2, none⟩) 512 c2) la lb AD' (N + 1) CAP' (S ++ [⟨f, t - f, bo, bn⟩]) := by
  have IV : Hid (DInv w wr bs ba bb (.slice (some ⟨g1, o1, none⟩) 512 c1) (.slice (some ⟨g2, o2, none⟩) 512 c2) la lb AD N CAP S) := iv
  have xs := iv.cs
  have xa := iv.ca
  have xb := iv.cb
  obtain ⟨ls, lA, lB⟩ := iv.lts
  have k1 : (f : Int) ≤ t := by omega
  have k2 : (t : Int) ≤ c1 := by have := h1.cap; omega
  have k3 : (t : Int) ≤ c2 := by have := h2.cap; omega
  have k4 : ¬ c1 = f := by have := h1.cap; omega
  have k5 : ¬ c2 = f := by have := h2.cap; omega
  have LA : Hid (((la.drop f).take (t - f)).length = t - f) := by show _ = _; rw [List.length_take, List.length_drop, h1.len]; omega
  have LB : Hid (((lb.drop f).take (t - f)).length = t - f) := by show _ = _; rw [List.length_take, List.length_drop, h2.len]; omega
  have SA : Hid (∀ w', Fr [] wr w' → BytesAt w' (some ⟨g1, o1 + f, none⟩) ((la.drop f).take (t - f))) := fun w' ff => (h1.bytes.sub f (t - f)).kept ff (by simp)
  have SB : Hid (∀ w', Fr [] wr w' → BytesAt w' (some ⟨g2, o2 + f, none⟩) ((lb.drop f).take (t - f))) := fun w' ff => (h2.bytes.sub f (t - f)).kept ff (by simp)
  clear iv h1 h2
  go_enter Tryz.func229, Tryz.ntmps229
  go_region_law (first
    | (refine step_appSp rfl (.tmp 7) (.tmp 20) rfl w AD N CAP (spv S) w4.heap.size (SpE.vals ⟨f, t - f, bo, bn⟩) rfl rfl (IV.out.kept ((f3.trans f4).alloc _)).own (IV.out.kept ((f3.trans f4).alloc _)).fr (heap_alloc_new _ _) rfl (by simp [SpE.vals, Value.oneCell']) (by omega) ?_; intro g6 cap6 w6 o6 f6 f06; have iv6 := d_step IV.out (e := ⟨f, t - f, bo, bn⟩) (f3.trans f4) (bk3.kept f4 (by simp)) bk4 _ o6 f6 f06 hb3 (Nat.lt_of_lt_of_le bk3.lt hb4) bk4.lt; obtain ⟨x6, z6⟩ := d_boxed IV.out (f3.trans f4) _ f6)
    | (go_simp; go_at_call_of 163 (#[Value.slice (some ⟨g1, o1 + f, none⟩) (t - f) (c1 - f)]); refine (copied_any _ (some ⟨g1, o1 + f, none⟩) (t - f) (c1 - f) ((la.drop f).take (t - f)) LA.out (SA.out _ (Fr.refl [] wr).drew) (by omega)).mono ?_; rintro e w3 ⟨bo, rfl, bk3, hb3, f3'⟩; have f3 : Fr [] wr w3 := (Fr.refl [] wr).drew.trans f3'; have x3s := (IV.out.kept f3).cs; have x3a := (IV.out.kept f3).ca; have x3b := (IV.out.kept f3).cb)
    | (go_simp; go_at_call_of 163 (#[Value.slice (some ⟨g2, o2 + f, none⟩) (t - f) (c2 - f)]); refine (copied_any _ (some ⟨g2, o2 + f, none⟩) (t - f) (c2 - f) ((lb.drop f).take (t - f)) LB.out (SB.out _ f3) (by omega)).mono ?_; rintro e w4 ⟨bn, rfl, bk4, hb4, f4⟩; have x4s := (IV.out.kept (f3.trans f4)).cs; have x4a := (IV.out.kept (f3.trans f4)).ca; have x4b := (IV.out.kept (f3.trans f4)).cb; have l4 := (IV.out.kept (f3.trans f4)).lts.1))
  all_goals
    go_end0
    exact ⟨rfl, _, _, _, _, iv6⟩
end Go.Proofs.YthajipigppndgaaGreat.Pg

namespace Go.Proofs.YthajipigppndgaaGreat.Pg
open Go.RowKit Go.Maps

set_option maxHeartbeats 2000000 in
set_option maxRecDepth 100000 in
theorem diff_512r (w : World) (g1 o1 c1 g2 o2 c2 : Nat) (la lb : List UInt8) (h1 : At512 w g1 o1 c1 la) (h2 : At512 w g2 o2 c2 lb) :
    Calls Tryz.prog 154 #[.slice (some ⟨g1, o1, none⟩) 512 c1, .slice (some ⟨g2, o2, none⟩) 512 c2] w fun r w' =>
      ∃ AD N CAP S, r = .returned (.slice AD N CAP) ∧ S.map (fun e => (e.off, e.off + e.n)) = diffS la lb ∧ w'.ownsRow w.heap.size 146 4 (.slice AD N CAP) N (spv S) ∧ (∀ e ∈ S, Blk w' e.bo ((la.drop e.off).take e.n) ∧ Blk w' e.bn ((lb.drop e.off).take e.n)) ∧ Fr [] w w' ∧ Rise w.heap.size w'.heap.size S := by
  have H1 : Hid (At512 w g1 o1 c1 la) := h1
  have H2 : Hid (At512 w g2 o2 c2 lb) := h2
  clear h1 h2
  go_enter Tryz.func154, Tryz.ntmps154
  go_wp2_with fail
  have IV0 : Hid (DInv w (((w.alloc (.cells #[.slice (some ⟨g1, o1, none⟩) 512 c1] 26)).alloc (.cells #[.slice (some ⟨g2, o2, none⟩) 512 c2] 26)).alloc (.cells #[.slice none 0 0] 122)) (w.heap.size + 1 + 1) w.heap.size (w.heap.size + 1) (.slice (some ⟨g1, o1, none⟩) 512 c1) (.slice (some ⟨g2, o2, none⟩) 512 c2) la lb none 0 0 []) := by
    have e1 := heap_alloc_new w (.cells #[.slice (some ⟨g1, o1, none⟩) 512 c1] 26)
    have f1 := (Fr.refl [] w).alloc (.cells #[.slice (some ⟨g1, o1, none⟩) 512 c1] 26)
    have z1 : (w.alloc (.cells #[.slice (some ⟨g1, o1, none⟩) 512 c1] 26)).heap.size = w.heap.size + 1 := by simp
    generalize w.alloc (.cells #[.slice (some ⟨g1, o1, none⟩) 512 c1] 26) = wa at e1 f1 z1 ⊢
    have e2 := heap_alloc_new wa (.cells #[.slice (some ⟨g2, o2, none⟩) 512 c2] 26)
    have f2 := (Fr.refl [] wa).alloc (.cells #[.slice (some ⟨g2, o2, none⟩) 512 c2] 26)
    have z2 : (wa.alloc (.cells #[.slice (some ⟨g2, o2, none⟩) 512 c2] 26)).heap.size = w.heap.size + 1 + 1 := by simp [z1]
    rw [z1] at e2
    generalize wa.alloc (.cells #[.slice (some ⟨g2, o2, none⟩) 512 c2] 26) = wb at e2 f2 z2 ⊢
    have e3 := heap_alloc_new wb (.cells #[.slice none 0 0] 122)
    have f3 := (Fr.refl [] wb).alloc (.cells #[.slice none 0 0] 122)
    rw [z2] at e3
    exact ⟨e3, f3.same (by simp) (f2.same (by simp) e1), f3.same (by simp) e2, World.ownsRow_nil _ _ _ _, (fun e he => nomatch he), f1.trans (f2.trans f3), ⟨by omega, by omega, by omega⟩, List.Pairwise.nil, fun b hb => nomatch hb⟩
  generalize (((w.alloc (.cells #[.slice (some ⟨g1, o1, none⟩) 512 c1] 26)).alloc (.cells #[.slice (some ⟨g2, o2, none⟩) 512 c2] 26)).alloc (.cells #[.slice none 0 0] 122)) = W at IV0 ⊢
  obtain ⟨bs, HBS⟩ : ∃ b, Hid (w.heap.size + 1 + 1 = b) := ⟨_, rfl⟩
  rw [HBS.out] at IV0 ⊢
  obtain ⟨bb, HBB⟩ : ∃ b, Hid (w.heap.size + 1 = b) := ⟨_, rfl⟩
  rw [HBB.out] at IV0 ⊢
  obtain ⟨ba, HBA⟩ : ∃ b, Hid (w.heap.size = b) := ⟨_, rfl⟩
  rw [HBA.out] at IV0 ⊢
  clear HBS HBB HBA
  go_loopw [7, 8, 21] (fun fv tv iv wr => ∃ (j f t : Nat) (d : List (Nat × Nat)) (AD : Option Addr) (N CAP : Nat) (S : List SpE), j ≤ 512 ∧ iv = .int .i64 j ∧ fv = .int .i64 f ∧ tv = .int .i64 t ∧ dwalk la lb j = (d, f, t) ∧ S.map (fun e => (e.off, e.off + e.n)) = d ∧ DInv w wr bs ba bb (.slice (some ⟨g1, o1, none⟩) 512 c1) (.slice (some ⟨g2, o2, none⟩) 512 c2) la lb AD N CAP S) (fun _ _ iv _ => 512 - (intOf iv).toNat)
  case atStart => exact ⟨0, 0, 0, [], none, 0, 0, [], by omega, rfl, rfl, rfl, rfl, rfl, IV0.out⟩
  case round =>
    obtain ⟨j, f, t, d, AD, N, CAP, S, hj, rfl, rfl, rfl, hdw, hS, iv⟩ := hrel
    have IV : Hid (DInv w wr bs ba bb (.slice (some ⟨g1, o1, none⟩) 512 c1) (.slice (some ⟨g2, o2, none⟩) 512 c2) la lb AD N CAP S) := iv
    have HDW : Hid (dwalk la lb j = (d, f, t)) := hdw
    have HS : Hid (S.map (fun e => (e.off, e.off + e.n)) = d) := hS
    have ok := dwalk_ok la lb j
    rw [hdw] at ok
    have OK : Hid (DOk la lb j (d, f, t)) := ok
    have htj : t ≤ j := ok.le
    have hN : N ≤ 60 := by
      have h1 : 9 * d.length ≤ f := ok.few
      have h2 := iv.len
      rw [← hS, List.length_map, h2] at h1
      by_cases ht : t = 0
      · have h3 : f = 0 := (ok.none ht).2
        omega
      · have h3 : f < t := (ok.cur ht).1
        omega
    clear iv hdw hS ok
    by_cases hlt : j < 512
    · have hlt' : (j : Int) < 512 := by omega
      have q1 := (H1.out.kept IV.out.fr (by simp)).cell j hlt
      have q2 := (H2.out.kept IV.out.fr (by simp)).cell j hlt
      have x1 : wr.cell? ⟨ba, 0, none⟩ = some (.slice (some ⟨g1, o1, none⟩) 512 c1) := cell_of_row wr ba 0 _ _ _ IV.out.boxa
      have x2 : wr.cell? ⟨bb, 0, none⟩ = some (.slice (some ⟨g2, o2, none⟩) 512 c2) := cell_of_row wr bb 0 _ _ _ IV.out.boxb
      by_cases he : byteAt la j = byteAt lb j
      · rw [← he] at q2
        have HDN : Hid (dwalk la lb (j + 1) = (d, f, t)) := by
          show dwalk la lb (j + 1) = _
          rw [dwalk]
          simp only [HDW.out]
          exact if_pos he
        clear he
        generalize ((byteAt la j).toNat : Int) = y at q1 q2
        go_wp2_with fail
        go_region
        go_wp2_with fail
        exact ⟨⟨j + 1, f, t, d, AD, N, CAP, S, by omega, by go_num, rfl, rfl, HDN.out, HS.out, IV.out.kept (Fr.refl [] wr).drew⟩, by simp [intOf]; omega⟩
      · have hbe : (((byteAt la j).toNat : Int) == ((byteAt lb j).toNat : Int)) = false := by
          rw [beq_eq_false_iff_ne]
          intro e
          exact he (UInt8.toNat_inj.1 (by omega))
        have HNE : Hid (¬ byteAt la j = byteAt lb j) := he
        clear he
        generalize ((byteAt la j).toNat : Int) = y1 at q1 hbe
        generalize ((byteAt lb j).toNat : Int) = y2 at q2 hbe
        by_cases ht : t = 0
        · have htb : ((t : Int) == 0) = true := by simp; omega
          have HDN : Hid (dwalk la lb (j + 1) = (d, j, j + 1)) := by
            show dwalk la lb (j + 1) = _
            rw [dwalk]
            simp only [HDW.out]
            exact (if_neg HNE.out).trans (if_pos ht)
          clear ht
          go_wp2_with fail
          go_region
          go_wp2_with fail
          exact ⟨⟨j + 1, j, j + 1, d, AD, N, CAP, S, by omega, by go_num, rfl, by go_num, HDN.out, HS.out, IV.out.kept (Fr.refl [] wr).drew⟩, by simp [intOf]; omega⟩
        · have htb : ((t : Int) == 0) = false := by simp; omega
          by_cases h7 : 7 < j - t
          · have h7' : (7 : Int) < j - t := by omega
            have HDN : Hid (dwalk la lb (j + 1) = (d ++ [(f, t)], j, j + 1)) := by
              show dwalk la lb (j + 1) = _
              rw [dwalk]
              simp only [HDW.out]
              exact (if_neg HNE.out).trans ((if_neg ht).trans (if_pos h7))
            have hft : f < t := (OK.out.cur ht).1
            clear ht
            go_wp2_with fail
            go_region
            go_wp2_with fail
            have ivd := IV.out.kept (Fr.refl [] wr).drew
            refine (putSp_any w _ bs ba bb g1 o1 c1 g2 o2 c2 la lb AD N CAP S ivd (H1.out.kept ivd.fr (by simp)) (H2.out.kept ivd.fr (by simp)) f t hft (by omega) hN).mono ?_
            rintro e w3 ⟨rfl, AD', CAP', bo, bn, iv3⟩
            have IV3 : Hid (DInv w w3 bs ba bb (.slice (some ⟨g1, o1, none⟩) 512 c1) (.slice (some ⟨g2, o2, none⟩) 512 c2) la lb AD' (N + 1) CAP' (S ++ [⟨f, t - f, bo, bn⟩])) := iv3
            clear iv3 ivd
            go_wp2_with fail
            exact ⟨⟨j + 1, j, j + 1, d ++ [(f, t)], AD', N + 1, CAP', S ++ [⟨f, t - f, bo, bn⟩], by omega, by go_num, rfl, by go_num, HDN.out, by rw [List.map_append, HS.out]; simp; omega, IV3.out⟩, by simp [intOf]; omega⟩
          · have h7' : ¬ (7 : Int) < j - t := by omega
            have HDN : Hid (dwalk la lb (j + 1) = (d, f, j + 1)) := by
              show dwalk la lb (j + 1) = _
              rw [dwalk]
              simp only [HDW.out]
              exact (if_neg HNE.out).trans ((if_neg ht).trans (if_neg h7))
            clear ht
            go_wp2_with fail
            go_region
            go_wp2_with fail
            exact ⟨⟨j + 1, f, j + 1, d, AD, N, CAP, S, by omega, by go_num, rfl, by go_num, HDN.out, HS.out, IV.out.kept (Fr.refl [] wr).drew⟩, by simp [intOf]; omega⟩
    · have hge : ¬ (j : Int) < 512 := by omega
      have hj2 : j = 512 := by omega
      have HE : Hid (diffS la lb = spansOf (d, f, t)) := by show _ = _; unfold diffS; rw [← hj2, HDW.out]
      clear hj2 hlt
      by_cases ht : t = 0
      · have htb : ¬ (0 : Int) < t := by omega
        have xs := IV.out.cs
        have HE2 : Hid (diffS la lb = d) := HE.out.trans (if_pos ht)
        clear ht
        go_wp2_with fail
        go_ret
        exact ⟨AD, N, CAP, rfl, S, HS.out.trans HE2.out.symm, IV.out.own, IV.out.oks, IV.out.fr, IV.out.rise⟩
      · have htb : (0 : Int) < t := by omega
        have HE2 : Hid (diffS la lb = d ++ [(f, t)]) := HE.out.trans (if_neg ht)
        have hft : f < t := (OK.out.cur ht).1
        clear ht
        go_wp2_with fail
        refine (putSp_any w _ bs ba bb g1 o1 c1 g2 o2 c2 la lb AD N CAP S IV.out (H1.out.kept IV.out.fr (by simp)) (H2.out.kept IV.out.fr (by simp)) f t hft (by omega) hN).mono ?_
        rintro e w3 ⟨rfl, AD', CAP', bo, bn, iv3⟩
        have IV3 : Hid (DInv w w3 bs ba bb (.slice (some ⟨g1, o1, none⟩) 512 c1) (.slice (some ⟨g2, o2, none⟩) 512 c2) la lb AD' (N + 1) CAP' (S ++ [⟨f, t - f, bo, bn⟩])) := iv3
        have xs := iv3.cs
        clear iv3
        go_wp2_with fail
        go_ret
        exact ⟨AD', N + 1, CAP', S ++ [⟨f, t - f, bo, bn⟩], rfl, by rw [List.map_append, HS.out, HE2.out]; simp; omega, IV3.out.own, IV3.out.oks, IV3.out.fr, IV3.out.rise⟩
end Go.Proofs.YthajipigppndgaaGreat.Pg

namespace Go.Proofs.YthajipigppndgaaGreat.Pg

theorem rises_pair {a b : List UInt8} : ∀ {D : List (Nat × Nat)} {m : Nat}, Rises a b m D → (∀ k (hk : k < D.length), m ≤ (D[k]'hk).1 ∧ (D[k]'hk).1 < (D[k]'hk).2 ∧ byteAt a (D[k]'hk).1 ≠ byteAt b (D[k]'hk).1 ∧ byteAt a ((D[k]'hk).2 - 1) ≠ byteAt b ((D[k]'hk).2 - 1)) ∧ (∀ k l (hl : l < D.length) (hkl : k < l), (D[k]'(by omega)).2 + 8 ≤ (D[l]'hl).1)
  | [], _, _ => ⟨fun k hk => absurd hk (by simp), fun k l hl => absurd hl (by simp)⟩
  | (f, t) :: r, m, h => by
    obtain ⟨h1, h2, h3, h4, h5⟩ := h
    obtain ⟨p1, p2⟩ := rises_pair h5
    refine ⟨fun k hk => ?_, fun k l hl hkl => ?_⟩
    · cases k with
      | zero => exact ⟨h1, h2, h3, h4⟩
      | succ k =>
        have := p1 k (by simpa using hk)
        exact ⟨by have := this.1; simp only [List.getElem_cons_succ]; omega, this.2⟩
    · cases l with
      | zero => omega
      | succ l =>
        cases k with
        | zero => exact (p1 l (by simpa using hl)).1
        | succ k => exact p2 k l (by simpa using hl) (by omega)

/-- The end of the last of the first i spans. -/
def lastE (D : List (Nat × Nat)) (i : Nat) : Nat := if i = 0 then 0 else (D.getD (i - 1) (0, 0)).2

theorem diff_ends (a b : List UInt8) : ∀ x ∈ diffS a b, x.2 ≤ 512 := by
  intro x hx
  have ok := dwalk_ok a b 512
  unfold diffS at hx
  generalize dwalk a b 512 = s at ok hx
  unfold spansOf at hx
  have h1 := ok.le
  by_cases ht : s.2.2 = 0
  · rw [if_pos ht, (ok.none ht).1] at hx
    cases hx
  · rw [if_neg ht] at hx
    have h2 := ok.cur ht
    rcases List.mem_append.1 hx with h | h
    · have := h2.2.2.2 x h
      omega
    · have : x = (s.2.1, s.2.2) := by simpa using h
      subst this
      exact h1
theorem diff_rises (a b : List UInt8) : Rises a b 0 (diffS a b) := by
  have ok := dwalk_ok a b 512
  unfold diffS
  generalize dwalk a b 512 = s at ok
  unfold spansOf
  by_cases ht : s.2.2 = 0
  · rw [if_pos ht]
    exact ok.rises
  · rw [if_neg ht]
    obtain ⟨c1, c2, c3, c4⟩ := ok.cur ht
    exact ok.rises.snoc c4 (by omega) c1 c2 c3

structure TOk (a b : List UInt8) (L f t : Nat) : Prop where
  lt : f < t
  le : t ≤ 512
  ne0 : byteAt a f ≠ byteAt b f
  ne1 : byteAt a (t - 1) ≠ byteAt b (t - 1)
  gap : L = 0 ∨ L + 8 ≤ f
  same : ∀ j, L ≤ j → j < f → byteAt a j = byteAt b j

theorem lastE_succ (D : List (Nat × Nat)) (i : Nat) (h : i < D.length) : lastE D (i + 1) = (D[i]'h).2 := by
  unfold lastE
  rw [if_neg (by omega), Nat.add_sub_cancel, List.getD_eq_getElem?_getD, List.getElem?_eq_getElem h]
  rfl
theorem diff_same (a b : List UInt8) (i : Nat) (hi : i ≤ (diffS a b).length) (j : Nat) (hj : j < 512) (h1 : lastE (diffS a b) i ≤ j) (h2 : ∀ (h : i < (diffS a b).length), j < ((diffS a b)[i]'h).1) : byteAt a j = byteAt b j := by
  have ok := dwalk_ok a b 512
  obtain ⟨p1, p2⟩ := rises_pair (diff_rises a b)
  refine ok.out j hj (fun x hx hc => ?_)
  have hx' : x ∈ diffS a b := hx
  obtain ⟨k, hk, rfl⟩ := List.mem_iff_getElem.1 hx'
  have q := (p1 k hk).2.1
  by_cases hki : k < i
  · obtain ⟨i', rfl⟩ : ∃ i', i = i' + 1 := ⟨i - 1, by omega⟩
    rw [lastE_succ _ _ (by omega)] at h1
    by_cases hk2 : k = i'
    · subst hk2
      omega
    · have := p2 k i' (by omega) (by omega)
      have := (p1 i' (by omega)).2.1
      omega
  · have h3 := h2 (by omega)
    by_cases hk2 : k = i
    · subst hk2
      omega
    · have := p2 i k hk (by omega)
      have := (p1 i (by omega)).2.1
      omega
theorem diff_tok (a b : List UInt8) (i : Nat) (hi : i < (diffS a b).length) : TOk a b (lastE (diffS a b) i) ((diffS a b)[i]'hi).1 ((diffS a b)[i]'hi).2 := by
  obtain ⟨p1, p2⟩ := rises_pair (diff_rises a b)
  obtain ⟨q0, q1, q2, q3⟩ := p1 i hi
  have hle := diff_ends a b _ (List.getElem_mem hi)
  refine ⟨q1, hle, q2, q3, ?_, fun j h1 h2 => diff_same a b i (by omega) j (by omega) h1 (fun _ => h2)⟩
  by_cases h0 : i = 0
  · subst h0
    exact Or.inl rfl
  · obtain ⟨i', rfl⟩ : ∃ i', i = i' + 1 := ⟨i - 1, by omega⟩
    rw [lastE_succ _ _ (by omega)]
    exact Or.inr (p2 i' (i' + 1) hi (by omega))

/-- The first L bytes of one page, the rest of another. -/
def mixL (a b : List UInt8) (L : Nat) : List UInt8 := b.take L ++ a.drop L
theorem mixL_length (a b : List UInt8) (L : Nat) (ha : a.length = 512) (hb : b.length = 512) (hL : L ≤ 512) : (mixL a b L).length = 512 := by
  unfold mixL
  rw [List.length_append, List.length_take, List.length_drop]
  omega
theorem mixL_zero (a b : List UInt8) : mixL a b 0 = a := by simp [mixL]
theorem mixL_get (a b : List UInt8) (L j : Nat) (hb : L ≤ b.length) : (mixL a b L)[j]? = if j < L then b[j]? else a[j]? := by
  unfold mixL
  by_cases h : j < L
  · rw [if_pos h, List.getElem?_append_left (by rw [List.length_take]; omega), List.getElem?_take, if_pos h]
  · rw [if_neg h, List.getElem?_append_right (by rw [List.length_take]; omega), List.length_take, List.getElem?_drop]
    congr 1
    omega
theorem mixL_all (a b : List UInt8) (L : Nat) (ha : a.length = 512) (hb : b.length = 512) (hL : L ≤ 512) (h : ∀ j, L ≤ j → j < 512 → byteAt a j = byteAt b j) : mixL a b L = b := by
  apply List.ext_getElem?
  intro j
  rw [mixL_get _ _ _ _ (by omega)]
  by_cases hj : j < L
  · rw [if_pos hj]
  · rw [if_neg hj]
    by_cases hj2 : j < 512
    · have := h j (by omega) hj2
      rw [List.getElem?_eq_getElem (by omega), List.getElem?_eq_getElem (by omega)]
      congr 1
      have e1 : byteAt a j = a[j]'(by omega) := by simp [byteAt, ha, hj2]
      have e2 : byteAt b j = b[j]'(by omega) := by simp [byteAt, hb, hj2]
      rw [← e1, ← e2]
      exact this
    · rw [List.getElem?_eq_none (by omega), List.getElem?_eq_none (by omega)]
theorem mixL_step (a b : List UInt8) (L f t : Nat) (ha : a.length = 512) (hb : b.length = 512) (hL : L ≤ f) (ok : TOk a b L f t) : over (mixL a b L) f ((b.drop f).take (t - f)) = mixL a b t := by
  have k1 := ok.lt
  have k2 := ok.le
  have hf : mixL a b L = mixL a b f := by
    apply List.ext_getElem?
    intro j
    rw [mixL_get _ _ _ _ (by omega), mixL_get _ _ _ _ (by omega)]
    by_cases h1 : j < L
    · rw [if_pos h1, if_pos (by omega)]
    · rw [if_neg h1]
      by_cases h2 : j < f
      · rw [if_pos h2]
        have := ok.same j (by omega) h2
        rw [List.getElem?_eq_getElem (by omega), List.getElem?_eq_getElem (by omega)]
        congr 1
        have e1 : byteAt a j = a[j]'(by omega) := by simp [byteAt, ha, show j < 512 by omega]
        have e2 : byteAt b j = b[j]'(by omega) := by simp [byteAt, hb, show j < 512 by omega]
        rw [← e1, ← e2]
        exact this
      · rw [if_neg h2]
  rw [hf]
  unfold mixL
  rw [over_at _ _ _ _ (by rw [List.length_take]; omega), List.length_take, List.length_drop, List.drop_drop, ← List.append_assoc]
  rw [show min (t - f) (b.length - f) = t - f by omega, show f + (t - f) = t by omega]
  congr 1
  rw [show t = f + (t - f) by omega, List.take_add]
  congr 2
  omega
theorem TOk.symm {a b : List UInt8} {L f t : Nat} (h : TOk a b L f t) : TOk b a L f t := ⟨h.lt, h.le, fun e => h.ne0 e.symm, fun e => h.ne1 e.symm, h.gap, fun j h1 h2 => (h.same j h1 h2).symm⟩
end Go.Proofs.YthajipigppndgaaGreat.Pg

namespace Go.Proofs.YthajipigppndgaaGreat.Pg
open Go.RowKit Go.Maps

set_option maxHeartbeats 1000000 in
set_option maxRecDepth 100000 in
theorem insert_ok (w : World) (g c : Nat) (l : List UInt8) (k : UInt8) (x : Nat) (cs : List (List UInt8)) (s : Nat) (ad : Option Addr) (n nc : Nat) (cell : List UInt8) (h : RowB w g c l) (pg : Pg l k x cs) (hs : s ≤ cs.length)
    (hcl : cell.length = n) (hcb : BytesAt w ad cell) (hr : elen cs + 2 + n ≤ 506) :
    Calls Tryz.prog 89 #[.slice (some ⟨g, 0, none⟩) 512 c, .int .i64 s, .slice ad n nc] w fun r w' => r = .returned (.int .i64 0) ∧ RowB w' g c (pgB k x (insC cs s cell)) ∧ Fr [g] w w' := by
  have hk := pg.ok
  have hsl := h.sl
  have hlen := pg.len
  rw [pg.len] at hsl
  have h5 : At512 w g 0 c l := ⟨pg.len, h.bytes, hsl.cap⟩
  have q1 := h.cell 1 (by rw [pg.len]; omega)
  rw [pg.count] at q1
  have hf := pg.few
  have hfit := pg.fits
  have HE : Hid (endOf l = 6 + elen cs) := pg.end
  have hs0 : ¬ (s : Int) < 0 := by omega
  have hs1 : ¬ (cs.length : Int) < s := by omega
  have h255 : ((cs.length : Int) == 255) = false := by simp; omega
  have hlt : ¬ (512 : Int) - (6 + elen cs) < 2 + n := by omega
  have HL : Hid (cell.length = n) := hcl
  clear hcl
  have hle := slot_le cs s
  have hg := h.lt
  go_enter Tryz.func89, Tryz.ntmps89
  go_wp2_with (first
    | (go_at_call 162; refine (measure_any _ _ _ _ l hsl).mono ?_; rintro e1 w ⟨rfl, rfl⟩; rw [HE.out])
    | (go_at_call 163; refine (copied_any _ ad n nc cell HL.out hcb (by omega)).mono ?_; rintro e1 w1 ⟨b, rfl, b1, hb1, f1⟩)
    | (go_at_call 164; refine (place_any _ g 0 c s l k x cs pg (h5.kept f1 (by simp)) hs).mono ?_; rintro e1 w1 ⟨rfl, rfl⟩))
  have hcap := hsl.cap
  have hnf : ¬ c = slotAt cs s := by omega
  have hsp := elen_split cs s
  have hE : 6 + elen cs - slotAt cs s = elen (cs.drop s) := by unfold slotAt; omega
  have r1 := h.kept f1 (by simp)
  have HS : Hid (((l.drop (slotAt cs s)).take (elen (cs.drop s))) = enc (cs.drop s)) := by
    show _ = _
    rw [pg.eq]; exact src_ins k x cs s
  have s1 := r1.bytes.sub (slotAt cs s) (elen (cs.drop s))
  rw [HS.out, Nat.zero_add] at s1
  have hsl1 : slotAt cs s = 6 + elen (cs.take s) := rfl
  have HM : Hid ((enc (cs.drop s)).length = Nat.min (6 + elen cs - slotAt cs s) (512 - (slotAt cs s + 2 + n))) := by
    show (enc (cs.drop s)).length = _
    rw [hE, show (enc (cs.drop s)).length = elen (cs.drop s) from rfl]
    exact (Nat.min_eq_left (by omega)).symm
  have HF : Hid (slotAt cs s + 2 + n + (enc (cs.drop s)).length ≤ l.length) := by
    show slotAt cs s + 2 + n + elen (cs.drop s) ≤ l.length
    omega
  obtain ⟨T, HT⟩ : ∃ T : Nat, Hid (slotAt cs s + 2 + n = T) := ⟨_, rfl⟩
  obtain ⟨F, HFF⟩ : ∃ F : Nat, Hid (slotAt cs s = F) := ⟨_, rfl⟩
  obtain ⟨E, HEE⟩ : ∃ E : Nat, Hid (6 + elen cs = E) := ⟨_, rfl⟩
  have eT : ((slotAt cs s : Int) + 2 + n) = (T : Int) := by have := HT.out; omega
  have eE : ((6 : Int) + elen cs) = (E : Int) := by have := HEE.out; omega
  rw [eT, eE, HFF.out]
  rw [HT.out, HFF.out, HEE.out] at HM
  rw [HT.out] at HF
  rw [HFF.out] at s1 hnf
  have t1 : T ≤ 512 := by have := HT.out; omega
  have t2 : F ≤ E := by have := HFF.out; have := HEE.out; omega
  have t3 : E ≤ 512 := by have := HEE.out; omega
  have t1' : (T : Int) ≤ 512 := by omega
  have t2' : (F : Int) ≤ E := by omega
  have t3' : (E : Int) ≤ c := by omega
  have t4' : (512 : Int) ≤ c := by omega
  have t5' : (T : Int) ≤ c := by omega
  obtain ⟨dp, hdp, HDP⟩ : ∃ dp : Option Addr, (if c = T then some (⟨g, 0, none⟩ : Addr) else some ⟨g, T, none⟩) = dp ∧ Hid (0 < (enc (cs.drop s)).length → dp = some ⟨g, T, none⟩) := by
    refine ⟨_, rfl, ?_⟩
    intro h0
    have h1 : (enc (cs.drop s)).length = elen (cs.drop s) := rfl
    have := HF.out
    rw [if_neg (by omega)]
  clear hE hsp hsl1 eT eE
  go_region_law (refine step_copyB rfl (.tmp 57) (.tmp 61) rfl g T dp (512 - T) (c - T) (some ⟨g, F, none⟩) (E - F) (c - F) c l (enc (cs.drop s)) (by simp [Act.eval, Act.put]) (by simp [Act.eval, Act.put]) r1 HM.out HDP.out s1 HF.out ?_; intro w2 r2 f2)
  clear hnf hdp HDP HM s1 q1 t1' t2' t3'
  have t6 : F + 2 + n = T := by rw [← HFF.out]; exact HT.out
  have HT6 : Hid (F + 2 + n = T) := t6
  have t7 : F + 2 ≤ T := by omega
  have t7' : (F : Int) + 2 ≤ T := by omega
  have t8' : (F : Int) + 2 ≤ c := by omega
  have hTF : T - (F + 2) = n := by omega
  clear t6
  have hl1 : (over l T (enc (cs.drop s))).length = 512 := by rw [over_length _ _ _ HF.out, hlen]
  have hl2 : (over (over l T (enc (cs.drop s))) F (beN 2 n)).length = 512 := by rw [over_length _ _ _ (by rw [beN_length]; omega), hl1]
  have b2 : Blk w2 b cell := b1.drew.kept f2 (by simp; omega)
  have HF3 : Hid (over (over (over l T (enc (cs.drop s))) F (beN 2 n)) (F + 2) cell = hd6 k cs.length x ++ (enc (insC cs s cell) ++ zs (506 - elen (insC cs s cell)))) := by
    show _ = _
    rw [beN_two, ← HFF.out, ← HT.out, ← HL.out, pg.eq]
    exact ins_bytes k x cs s cell (by rw [HL.out]; omega)
  go_wp2_with (first
    | (go_at_call 161; refine (setNumber_any _ g F 2 _ c n _ r2 (by omega) (by rw [hl1]; omega) (by omega) (by omega)).mono ?_; rintro e1 w3 ⟨rfl, r3, f3⟩)
    | (refine wp_copyB rfl _ _ rfl g (F + 2) _ _ _ _ _ _ c _ cell rfl rfl r3 (by rw [HL.out]; exact (Nat.min_eq_left (by have := HT6.out; omega)).symm) (fun h0 => by rw [if_neg (by have := HL.out; have := HT6.out; omega)]) ((b2.kept f3 (by simp; omega)).bytes) (by rw [hl2, HL.out]; omega) ?_; intro w4 r4 f4; rw [HF3.out] at r4; have q4 := r4.cell 1 (by simp [hd6_length]; omega); rw [hd6_one _ _ _ _ (by omega)] at q4; have z4 := r4.frozen 1))
  all_goals
    go_ret
    refine ⟨rfl, ?_, ((((f1.mono (M := [g]) (by simp)).drew.trans f2).trans f3).trans f4).setCell _ _ (by simp)⟩
    have h9 := r4.set 1 (UInt8.ofNat (cs.length + 1)) (by simp [hd6_length]; omega)
    rw [ins_page k x cs s cell hs _ rfl, u8_ofNat_toNat, Nat.mod_eq_of_lt (by omega)] at h9
    have h10 : RowB (w4.setCell ⟨g, 1, none⟩ (Value.int .u8 ((cs.length : Int) + 1))) g c (pgB k x (insC cs s cell)) := by simpa using h9
    first
      | exact h10
      | (have hcF : c = F + 2 := by assumption
         rw [← hcF]
         exact h10)
end Go.Proofs.YthajipigppndgaaGreat.Pg

