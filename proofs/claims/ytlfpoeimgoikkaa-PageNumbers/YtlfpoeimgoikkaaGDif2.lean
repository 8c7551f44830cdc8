/-
  The program's Diff: a span is put; the walk.
-/
import Derived.Test.YtlfpoeimgoikkaaGDifP
namespace Go.Proofs.Ytlfpoeimgoikkaa
open Go.RowKit Go.Maps

set_option maxHeartbeats 400000 in
theorem diff_len (w : World) (a1 a2 : Option Addr) (n1 c1 n2 c2 : Nat) (h : n1 ≠ 512 ∨ n2 ≠ 512) :
    Calls Try.prog 19 #[.slice a1 n1 c1, .slice a2 n2 c2] w fun r w' => r = .returned (.slice none 0 0) ∧ Fr [] w w' := by
  by_cases h1 : n1 = 512
  · have hb1 : ((n1 : Int) != 512) = false := by simp; omega
    have hb2 : ((n2 : Int) != 512) = true := by simp; omega
    clear h h1
    go_enter Try.func19, Try.ntmps19
    go_wp2_with fail
    go_ret
    exact ⟨rfl, ((Fr.refl _ _).alloc _).alloc _⟩
  · have hb1 : ((n1 : Int) != 512) = true := by simp; omega
    clear h h1
    go_enter Try.func19, Try.ntmps19
    go_wp2_with fail
    go_ret
    exact ⟨rfl, ((Fr.refl _ _).alloc _).alloc _⟩

set_option maxHeartbeats 2000000 in
set_option maxRecDepth 100000 in
theorem diff_512r (w : World) (g1 o1 c1 g2 o2 c2 : Nat) (la lb : List UInt8) (h1 : At512 w g1 o1 c1 la) (h2 : At512 w g2 o2 c2 lb) :
    Calls Try.prog 19 #[.slice (some ⟨g1, o1, none⟩) 512 c1, .slice (some ⟨g2, o2, none⟩) 512 c2] w fun r w' =>
      ∃ AD N CAP S, r = .returned (.slice AD N CAP) ∧ S.map (fun e => (e.off, e.off + e.n)) = diffS la lb ∧ w'.ownsRow w.heap.size 52 4 (.slice AD N CAP) N (spv S) ∧ (∀ e ∈ S, Blk w' e.bo ((la.drop e.off).take e.n) ∧ Blk w' e.bn ((lb.drop e.off).take e.n)) ∧ Fr [] w w' ∧ Rise w.heap.size w'.heap.size S := by
  have H1 : Hid (At512 w g1 o1 c1 la) := h1
  have H2 : Hid (At512 w g2 o2 c2 lb) := h2
  clear h1 h2
  go_enter Try.func19, Try.ntmps19
  go_wp2_with fail
  have IV0 : Hid (DInv w (((w.alloc (.cells #[.slice (some ⟨g1, o1, none⟩) 512 c1] 22)).alloc (.cells #[.slice (some ⟨g2, o2, none⟩) 512 c2] 22)).alloc (.cells #[.slice none 0 0] 37)) (w.heap.size + 1 + 1) w.heap.size (w.heap.size + 1) (.slice (some ⟨g1, o1, none⟩) 512 c1) (.slice (some ⟨g2, o2, none⟩) 512 c2) la lb none 0 0 []) := by
    have e1 := heap_alloc_new w (.cells #[.slice (some ⟨g1, o1, none⟩) 512 c1] 22)
    have f1 := (Fr.refl [] w).alloc (.cells #[.slice (some ⟨g1, o1, none⟩) 512 c1] 22)
    have z1 : (w.alloc (.cells #[.slice (some ⟨g1, o1, none⟩) 512 c1] 22)).heap.size = w.heap.size + 1 := by simp
    generalize w.alloc (.cells #[.slice (some ⟨g1, o1, none⟩) 512 c1] 22) = wa at e1 f1 z1 ⊢
    have e2 := heap_alloc_new wa (.cells #[.slice (some ⟨g2, o2, none⟩) 512 c2] 22)
    have f2 := (Fr.refl [] wa).alloc (.cells #[.slice (some ⟨g2, o2, none⟩) 512 c2] 22)
    have z2 : (wa.alloc (.cells #[.slice (some ⟨g2, o2, none⟩) 512 c2] 22)).heap.size = w.heap.size + 1 + 1 := by simp [z1]
    rw [z1] at e2
    generalize wa.alloc (.cells #[.slice (some ⟨g2, o2, none⟩) 512 c2] 22) = wb at e2 f2 z2 ⊢
    have e3 := heap_alloc_new wb (.cells #[.slice none 0 0] 37)
    have f3 := (Fr.refl [] wb).alloc (.cells #[.slice none 0 0] 37)
    rw [z2] at e3
    exact ⟨e3, f3.same (by simp) (f2.same (by simp) e1), f3.same (by simp) e2, World.ownsRow_nil _ _ _ _, (fun e he => nomatch he), f1.trans (f2.trans f3), ⟨by omega, by omega, by omega⟩, List.Pairwise.nil, fun b hb => nomatch hb⟩
  generalize (((w.alloc (.cells #[.slice (some ⟨g1, o1, none⟩) 512 c1] 22)).alloc (.cells #[.slice (some ⟨g2, o2, none⟩) 512 c2] 22)).alloc (.cells #[.slice none 0 0] 37)) = W at IV0 ⊢
  obtain ⟨bs, HBS⟩ : ∃ b, Hid (w.heap.size + 1 + 1 = b) := ⟨_, rfl⟩
  rw [HBS.out] at IV0 ⊢
  obtain ⟨bb, HBB⟩ : ∃ b, Hid (w.heap.size + 1 = b) := ⟨_, rfl⟩
  rw [HBB.out] at IV0 ⊢
  obtain ⟨ba, HBA⟩ : ∃ b, Hid (w.heap.size = b) := ⟨_, rfl⟩
  rw [HBA.out] at IV0 ⊢
  clear HBS HBB HBA
  go_loopw [7, 8, 21] (fun fv tv iv wr => ∃ (j f t : Nat) (d : List (Nat × Nat)) (AD : Option Addr) (N CAP : Nat) (S : List SpE), j ≤ 512 ∧ iv = .int .i64 j ∧ fv = .int .i64 f ∧ tv = .int .i64 t ∧ dwalk la lb j = (d, f, t) ∧ S.map (fun e => (e.off, e.off + e.n)) = d ∧ DInv w wr bs ba bb (.slice (some ⟨g1, o1, none⟩) 512 c1) (.slice (some ⟨g2, o2, none⟩) 512 c2) la lb AD N CAP S) (fun _ _ iv _ => 512 - (intOf iv).toNat)
  case atStart => exact ⟨0, 0, 0, [], none, 0, 0, [], by omega, rfl, rfl, rfl, rfl, rfl, IV0.out⟩
  case round =>
    obtain ⟨j, f, t, d, AD, N, CAP, S, hj, rfl, rfl, rfl, hdw, hS, iv⟩ := hrel
    have IV : Hid (DInv w wr bs ba bb (.slice (some ⟨g1, o1, none⟩) 512 c1) (.slice (some ⟨g2, o2, none⟩) 512 c2) la lb AD N CAP S) := iv
    have HDW : Hid (dwalk la lb j = (d, f, t)) := hdw
    have HS : Hid (S.map (fun e => (e.off, e.off + e.n)) = d) := hS
    have ok := dwalk_ok la lb j
    rw [hdw] at ok
    have OK : Hid (DOk la lb j (d, f, t)) := ok
    have htj : t ≤ j := ok.le
    have hN : N ≤ 60 := by
      have h1 : 9 * d.length ≤ f := ok.few
      have h2 := iv.len
      rw [← hS, List.length_map, h2] at h1
      by_cases ht : t = 0
      · have h3 : f = 0 := (ok.none ht).2
        omega
      · have h3 : f < t := (ok.cur ht).1
        omega
    clear iv hdw hS ok
    by_cases hlt : j < 512
    · have hlt' : (j : Int) < 512 := by omega
      have q1 := (H1.out.kept IV.out.fr (by simp)).cell j hlt
      have q2 := (H2.out.kept IV.out.fr (by simp)).cell j hlt
      have x1 : wr.cell? ⟨ba, 0, none⟩ = some (.slice (some ⟨g1, o1, none⟩) 512 c1) := cell_of_row wr ba 0 _ _ _ IV.out.boxa
      have x2 : wr.cell? ⟨bb, 0, none⟩ = some (.slice (some ⟨g2, o2, none⟩) 512 c2) := cell_of_row wr bb 0 _ _ _ IV.out.boxb
      by_cases he : byteAt la j = byteAt lb j
      · rw [← he] at q2
        have HDN : Hid (dwalk la lb (j + 1) = (d, f, t)) := by
          show dwalk la lb (j + 1) = _
          rw [dwalk]
          simp only [HDW.out]
          exact if_pos he
        clear he
        generalize ((byteAt la j).toNat : Int) = y at q1 q2
        go_wp2_with fail
        go_region
        go_wp2_with fail
        exact ⟨⟨j + 1, f, t, d, AD, N, CAP, S, by omega, by go_num, rfl, rfl, HDN.out, HS.out, IV.out.kept (Fr.refl [] wr).drew⟩, by simp [intOf]; omega⟩
      · have hbe : (((byteAt la j).toNat : Int) == ((byteAt lb j).toNat : Int)) = false := by
          rw [beq_eq_false_iff_ne]
          intro e
          exact he (UInt8.toNat_inj.1 (by omega))
        have HNE : Hid (¬ byteAt la j = byteAt lb j) := he
        clear he
        generalize ((byteAt la j).toNat : Int) = y1 at q1 hbe
        generalize ((byteAt lb j).toNat : Int) = y2 at q2 hbe
        by_cases ht : t = 0
        · have htb : ((t : Int) == 0) = true := by simp; omega
          have HDN : Hid (dwalk la lb (j + 1) = (d, j, j + 1)) := by
            show dwalk la lb (j + 1) = _
            rw [dwalk]
            simp only [HDW.out]
            exact (if_neg HNE.out).trans (if_pos ht)
          clear ht
          go_wp2_with fail
          go_region
          go_wp2_with fail
          exact ⟨⟨j + 1, j, j + 1, d, AD, N, CAP, S, by omega, by go_num, rfl, by go_num, HDN.out, HS.out, IV.out.kept (Fr.refl [] wr).drew⟩, by simp [intOf]; omega⟩
        · have htb : ((t : Int) == 0) = false := by simp; omega
          by_cases h7 : 7 < j - t
          · have h7' : (7 : Int) < j - t := by omega
            have HDN : Hid (dwalk la lb (j + 1) = (d ++ [(f, t)], j, j + 1)) := by
              show dwalk la lb (j + 1) = _
              rw [dwalk]
              simp only [HDW.out]
              exact (if_neg HNE.out).trans ((if_neg ht).trans (if_pos h7))
            have hft : f < t := (OK.out.cur ht).1
            clear ht
            go_wp2_with fail
            go_region
            go_wp2_with fail
            have ivd := IV.out.kept (Fr.refl [] wr).drew
            refine (putSp_any w _ bs ba bb g1 o1 c1 g2 o2 c2 la lb AD N CAP S ivd (H1.out.kept ivd.fr (by simp)) (H2.out.kept ivd.fr (by simp)) f t hft (by omega) hN).mono ?_
            rintro e w3 ⟨rfl, AD', CAP', bo, bn, iv3⟩
            have IV3 : Hid (DInv w w3 bs ba bb (.slice (some ⟨g1, o1, none⟩) 512 c1) (.slice (some ⟨g2, o2, none⟩) 512 c2) la lb AD' (N + 1) CAP' (S ++ [⟨f, t - f, bo, bn⟩])) := iv3
            clear iv3 ivd
            go_wp2_with fail
            exact ⟨⟨j + 1, j, j + 1, d ++ [(f, t)], AD', N + 1, CAP', S ++ [⟨f, t - f, bo, bn⟩], by omega, by go_num, rfl, by go_num, HDN.out, by rw [List.map_append, HS.out]; simp; omega, IV3.out⟩, by simp [intOf]; omega⟩
          · have h7' : ¬ (7 : Int) < j - t := by omega
            have HDN : Hid (dwalk la lb (j + 1) = (d, f, j + 1)) := by
              show dwalk la lb (j + 1) = _
              rw [dwalk]
              simp only [HDW.out]
              exact (if_neg HNE.out).trans ((if_neg ht).trans (if_neg h7))
            clear ht
            go_wp2_with fail
            go_region
            go_wp2_with fail
            exact ⟨⟨j + 1, f, j + 1, d, AD, N, CAP, S, by omega, by go_num, rfl, by go_num, HDN.out, HS.out, IV.out.kept (Fr.refl [] wr).drew⟩, by simp [intOf]; omega⟩
    · have hge : ¬ (j : Int) < 512 := by omega
      have hj2 : j = 512 := by omega
      have HE : Hid (diffS la lb = spansOf (d, f, t)) := by show _ = _; unfold diffS; rw [← hj2, HDW.out]
      clear hj2 hlt
      by_cases ht : t = 0
      · have htb : ¬ (0 : Int) < t := by omega
        have xs := IV.out.cs
        have HE2 : Hid (diffS la lb = d) := HE.out.trans (if_pos ht)
        clear ht
        go_wp2_with fail
        go_ret
        exact ⟨AD, N, CAP, rfl, S, HS.out.trans HE2.out.symm, IV.out.own, IV.out.oks, IV.out.fr, IV.out.rise⟩
      · have htb : (0 : Int) < t := by omega
        have HE2 : Hid (diffS la lb = d ++ [(f, t)]) := HE.out.trans (if_neg ht)
        have hft : f < t := (OK.out.cur ht).1
        clear ht
        go_wp2_with fail
        refine (putSp_any w _ bs ba bb g1 o1 c1 g2 o2 c2 la lb AD N CAP S IV.out (H1.out.kept IV.out.fr (by simp)) (H2.out.kept IV.out.fr (by simp)) f t hft (by omega) hN).mono ?_
        rintro e w3 ⟨rfl, AD', CAP', bo, bn, iv3⟩
        have IV3 : Hid (DInv w w3 bs ba bb (.slice (some ⟨g1, o1, none⟩) 512 c1) (.slice (some ⟨g2, o2, none⟩) 512 c2) la lb AD' (N + 1) CAP' (S ++ [⟨f, t - f, bo, bn⟩])) := iv3
        have xs := iv3.cs
        clear iv3
        go_wp2_with fail
        go_ret
        exact ⟨AD', N + 1, CAP', S ++ [⟨f, t - f, bo, bn⟩], rfl, by rw [List.map_append, HS.out, HE2.out]; simp; omega, IV3.out.own, IV3.out.oks, IV3.out.fr, IV3.out.rise⟩
theorem diff_512 (w : World) (g1 o1 c1 g2 o2 c2 : Nat) (la lb : List UInt8) (h1 : At512 w g1 o1 c1 la) (h2 : At512 w g2 o2 c2 lb) :
    Calls Try.prog 19 #[.slice (some ⟨g1, o1, none⟩) 512 c1, .slice (some ⟨g2, o2, none⟩) 512 c2] w fun r w' =>
      ∃ AD N CAP S, r = .returned (.slice AD N CAP) ∧ S.map (fun e => (e.off, e.off + e.n)) = diffS la lb ∧ w'.ownsRow w.heap.size 52 4 (.slice AD N CAP) N (spv S) ∧ (∀ e ∈ S, Blk w' e.bo ((la.drop e.off).take e.n) ∧ Blk w' e.bn ((lb.drop e.off).take e.n)) ∧ Fr [] w w' :=
  (diff_512r w g1 o1 c1 g2 o2 c2 la lb h1 h2).mono fun _ _ ⟨AD, N, CAP, S, a, b, c, d, e, _⟩ => ⟨AD, N, CAP, S, a, b, c, d, e⟩
end Go.Proofs.Ytlfpoeimgoikkaa
