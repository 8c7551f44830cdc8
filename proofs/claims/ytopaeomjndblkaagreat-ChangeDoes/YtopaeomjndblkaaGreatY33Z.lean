/-
  Where a page is to get other bytes: the spans, with their page; how much log they want.
-/
import Derived.Test.YtopaeomjndblkaaGreatY32Z
import Derived.Test.YtopaeomjndblkaaGreatY26Z
namespace Go.Proofs.YtopaeomjndblkaaGreat.Pg
open Go.RowKit Go.Maps

set_option maxHeartbeats 2000000 in
set_option maxRecDepth 100000 in
theorem diff_512r (w : World) (g1 o1 c1 g2 o2 c2 : Nat) (la lb : List UInt8) (h1 : At512 w g1 o1 c1 la) (h2 : At512 w g2 o2 c2 lb) :
    Calls Tryz.prog 192 #[.slice (some ⟨g1, o1, none⟩) 512 c1, .slice (some ⟨g2, o2, none⟩) 512 c2] w fun r w' =>
      ∃ AD N CAP S, r = .returned (.slice AD N CAP) ∧ S.map (fun e => (e.off, e.off + e.n)) = diffS la lb ∧ w'.ownsRow w.heap.size 42 4 (.slice AD N CAP) N (spv S) ∧ (∀ e ∈ S, Blk w' e.bo ((la.drop e.off).take e.n) ∧ Blk w' e.bn ((lb.drop e.off).take e.n)) ∧ Fr [] w w' ∧ Rise w.heap.size w'.heap.size S := by
  have H1 : Hid (At512 w g1 o1 c1 la) := h1
  have H2 : Hid (At512 w g2 o2 c2 lb) := h2
  clear h1 h2
  go_enter Tryz.func192, Tryz.ntmps192
  go_wp2_with fail
  have IV0 : Hid (DInv w (((w.alloc (.cells #[.slice (some ⟨g1, o1, none⟩) 512 c1] 37)).alloc (.cells #[.slice (some ⟨g2, o2, none⟩) 512 c2] 37)).alloc (.cells #[.slice none 0 0] 170)) (w.heap.size + 1 + 1) w.heap.size (w.heap.size + 1) (.slice (some ⟨g1, o1, none⟩) 512 c1) (.slice (some ⟨g2, o2, none⟩) 512 c2) la lb none 0 0 []) := by
    have e1 := heap_alloc_new w (.cells #[.slice (some ⟨g1, o1, none⟩) 512 c1] 37)
    have f1 := (Fr.refl [] w).alloc (.cells #[.slice (some ⟨g1, o1, none⟩) 512 c1] 37)
    have z1 : (w.alloc (.cells #[.slice (some ⟨g1, o1, none⟩) 512 c1] 37)).heap.size = w.heap.size + 1 := by simp
    generalize w.alloc (.cells #[.slice (some ⟨g1, o1, none⟩) 512 c1] 37) = wa at e1 f1 z1 ⊢
    have e2 := heap_alloc_new wa (.cells #[.slice (some ⟨g2, o2, none⟩) 512 c2] 37)
    have f2 := (Fr.refl [] wa).alloc (.cells #[.slice (some ⟨g2, o2, none⟩) 512 c2] 37)
    have z2 : (wa.alloc (.cells #[.slice (some ⟨g2, o2, none⟩) 512 c2] 37)).heap.size = w.heap.size + 1 + 1 := by simp [z1]
    rw [z1] at e2
    generalize wa.alloc (.cells #[.slice (some ⟨g2, o2, none⟩) 512 c2] 37) = wb at e2 f2 z2 ⊢
    have e3 := heap_alloc_new wb (.cells #[.slice none 0 0] 170)
    have f3 := (Fr.refl [] wb).alloc (.cells #[.slice none 0 0] 170)
    rw [z2] at e3
    exact ⟨e3, f3.same (by simp) (f2.same (by simp) e1), f3.same (by simp) e2, World.ownsRow_nil _ _ _ _, (fun e he => nomatch he), f1.trans (f2.trans f3), ⟨by omega, by omega, by omega⟩, List.Pairwise.nil, fun b hb => nomatch hb⟩
  generalize (((w.alloc (.cells #[.slice (some ⟨g1, o1, none⟩) 512 c1] 37)).alloc (.cells #[.slice (some ⟨g2, o2, none⟩) 512 c2] 37)).alloc (.cells #[.slice none 0 0] 170)) = W at IV0 ⊢
  obtain ⟨bs, HBS⟩ : ∃ b, Hid (w.heap.size + 1 + 1 = b) := ⟨_, rfl⟩
  rw [HBS.out] at IV0 ⊢
  obtain ⟨bb, HBB⟩ : ∃ b, Hid (w.heap.size + 1 = b) := ⟨_, rfl⟩
  rw [HBB.out] at IV0 ⊢
  obtain ⟨ba, HBA⟩ : ∃ b, Hid (w.heap.size = b) := ⟨_, rfl⟩
  rw [HBA.out] at IV0 ⊢
  clear HBS HBB HBA
  go_loopw [7, 8, 21] (fun fv tv iv wr => ∃ (j f t : Nat) (d : List (Nat × Nat)) (AD : Option Addr) (N CAP : Nat) (S : List SpE), j ≤ 512 ∧ iv = .int .i64 j ∧ fv = .int .i64 f ∧ tv = .int .i64 t ∧ dwalk la lb j = (d, f, t) ∧ S.map (fun e => (e.off, e.off + e.n)) = d ∧ DInv w wr bs ba bb (.slice (some ⟨g1, o1, none⟩) 512 c1) (.slice (some ⟨g2, o2, none⟩) 512 c2) la lb AD N CAP S) (fun _ _ iv _ => 512 - (intOf iv).toNat)
  case atStart => exact ⟨0, 0, 0, [], none, 0, 0, [], by omega, rfl, rfl, rfl, rfl, rfl, IV0.out⟩
  case round =>
    obtain ⟨j, f, t, d, AD, N, CAP, S, hj, rfl, rfl, rfl, hdw, hS, iv⟩ := hrel
    have IV : Hid (DInv w wr bs ba bb (.slice (some ⟨g1, o1, none⟩) 512 c1) (.slice (some ⟨g2, o2, none⟩) 512 c2) la lb AD N CAP S) := iv
    have HDW : Hid (dwalk la lb j = (d, f, t)) := hdw
    have HS : Hid (S.map (fun e => (e.off, e.off + e.n)) = d) := hS
    have ok := dwalk_ok la lb j
    rw [hdw] at ok
    have OK : Hid (DOk la lb j (d, f, t)) := ok
    have htj : t ≤ j := ok.le
    have hN : N ≤ 60 := by
      have h1 : 9 * d.length ≤ f := ok.few
      have h2 := iv.len
      rw [← hS, List.length_map, h2] at h1
      by_cases ht : t = 0
      · have h3 : f = 0 := (ok.none ht).2
        omega
      · have h3 : f < t := (ok.cur ht).1
        omega
    clear iv hdw hS ok
    by_cases hlt : j < 512
    · have hlt' : (j : Int) < 512 := by omega
      have q1 := (H1.out.kept IV.out.fr (by simp)).cell j hlt
      have q2 := (H2.out.kept IV.out.fr (by simp)).cell j hlt
      have x1 : wr.cell? ⟨ba, 0, none⟩ = some (.slice (some ⟨g1, o1, none⟩) 512 c1) := cell_of_row wr ba 0 _ _ _ IV.out.boxa
      have x2 : wr.cell? ⟨bb, 0, none⟩ = some (.slice (some ⟨g2, o2, none⟩) 512 c2) := cell_of_row wr bb 0 _ _ _ IV.out.boxb
      by_cases he : byteAt la j = byteAt lb j
      · rw [← he] at q2
        have HDN : Hid (dwalk la lb (j + 1) = (d, f, t)) := by
          show dwalk la lb (j + 1) = _
          rw [dwalk]
          simp only [HDW.out]
          exact if_pos he
        clear he
        generalize ((byteAt la j).toNat : Int) = y at q1 q2
        go_wp2_with fail
        go_region
        go_wp2_with fail
        exact ⟨⟨j + 1, f, t, d, AD, N, CAP, S, by omega, by go_num, rfl, rfl, HDN.out, HS.out, IV.out.kept (Fr.refl [] wr).drew⟩, by simp [intOf]; omega⟩
      · have hbe : (((byteAt la j).toNat : Int) == ((byteAt lb j).toNat : Int)) = false := by
          rw [beq_eq_false_iff_ne]
          intro e
          exact he (UInt8.toNat_inj.1 (by omega))
        have HNE : Hid (¬ byteAt la j = byteAt lb j) := he
        clear he
        generalize ((byteAt la j).toNat : Int) = y1 at q1 hbe
        generalize ((byteAt lb j).toNat : Int) = y2 at q2 hbe
        by_cases ht : t = 0
        · have htb : ((t : Int) == 0) = true := by simp; omega
          have HDN : Hid (dwalk la lb (j + 1) = (d, j, j + 1)) := by
            show dwalk la lb (j + 1) = _
            rw [dwalk]
            simp only [HDW.out]
            exact (if_neg HNE.out).trans (if_pos ht)
          clear ht
          go_wp2_with fail
          go_region
          go_wp2_with fail
          exact ⟨⟨j + 1, j, j + 1, d, AD, N, CAP, S, by omega, by go_num, rfl, by go_num, HDN.out, HS.out, IV.out.kept (Fr.refl [] wr).drew⟩, by simp [intOf]; omega⟩
        · have htb : ((t : Int) == 0) = false := by simp; omega
          by_cases h7 : 7 < j - t
          · have h7' : (7 : Int) < j - t := by omega
            have HDN : Hid (dwalk la lb (j + 1) = (d ++ [(f, t)], j, j + 1)) := by
              show dwalk la lb (j + 1) = _
              rw [dwalk]
              simp only [HDW.out]
              exact (if_neg HNE.out).trans ((if_neg ht).trans (if_pos h7))
            have hft : f < t := (OK.out.cur ht).1
            clear ht
            go_wp2_with fail
            go_region
            go_wp2_with fail
            have ivd := IV.out.kept (Fr.refl [] wr).drew
            refine (putSp_any w _ bs ba bb g1 o1 c1 g2 o2 c2 la lb AD N CAP S ivd (H1.out.kept ivd.fr (by simp)) (H2.out.kept ivd.fr (by simp)) f t hft (by omega) hN).mono ?_
            rintro e w3 ⟨rfl, AD', CAP', bo, bn, iv3⟩
            have IV3 : Hid (DInv w w3 bs ba bb (.slice (some ⟨g1, o1, none⟩) 512 c1) (.slice (some ⟨g2, o2, none⟩) 512 c2) la lb AD' (N + 1) CAP' (S ++ [⟨f, t - f, bo, bn⟩])) := iv3
            clear iv3 ivd
            go_wp2_with fail
            exact ⟨⟨j + 1, j, j + 1, d ++ [(f, t)], AD', N + 1, CAP', S ++ [⟨f, t - f, bo, bn⟩], by omega, by go_num, rfl, by go_num, HDN.out, by rw [List.map_append, HS.out]; simp; omega, IV3.out⟩, by simp [intOf]; omega⟩
          · have h7' : ¬ (7 : Int) < j - t := by omega
            have HDN : Hid (dwalk la lb (j + 1) = (d, f, j + 1)) := by
              show dwalk la lb (j + 1) = _
              rw [dwalk]
              simp only [HDW.out]
              exact (if_neg HNE.out).trans ((if_neg ht).trans (if_neg h7))
            clear ht
            go_wp2_with fail
            go_region
            go_wp2_with fail
            exact ⟨⟨j + 1, f, j + 1, d, AD, N, CAP, S, by omega, by go_num, rfl, by go_num, HDN.out, HS.out, IV.out.kept (Fr.refl [] wr).drew⟩, by simp [intOf]; omega⟩
    · have hge : ¬ (j : Int) < 512 := by omega
      have hj2 : j = 512 := by omega
      have HE : Hid (diffS la lb = spansOf (d, f, t)) := by show _ = _; unfold diffS; rw [← hj2, HDW.out]
      clear hj2 hlt
      by_cases ht : t = 0
      · have htb : ¬ (0 : Int) < t := by omega
        have xs := IV.out.cs
        have HE2 : Hid (diffS la lb = d) := HE.out.trans (if_pos ht)
        clear ht
        go_wp2_with fail
        go_ret
        exact ⟨AD, N, CAP, rfl, S, HS.out.trans HE2.out.symm, IV.out.own, IV.out.oks, IV.out.fr, IV.out.rise⟩
      · have htb : (0 : Int) < t := by omega
        have HE2 : Hid (diffS la lb = d ++ [(f, t)]) := HE.out.trans (if_neg ht)
        have hft : f < t := (OK.out.cur ht).1
        clear ht
        go_wp2_with fail
        refine (putSp_any w _ bs ba bb g1 o1 c1 g2 o2 c2 la lb AD N CAP S IV.out (H1.out.kept IV.out.fr (by simp)) (H2.out.kept IV.out.fr (by simp)) f t hft (by omega) hN).mono ?_
        rintro e w3 ⟨rfl, AD', CAP', bo, bn, iv3⟩
        have IV3 : Hid (DInv w w3 bs ba bb (.slice (some ⟨g1, o1, none⟩) 512 c1) (.slice (some ⟨g2, o2, none⟩) 512 c2) la lb AD' (N + 1) CAP' (S ++ [⟨f, t - f, bo, bn⟩])) := iv3
        have xs := iv3.cs
        clear iv3
        go_wp2_with fail
        go_ret
        exact ⟨AD', N + 1, CAP', S ++ [⟨f, t - f, bo, bn⟩], rfl, by rw [List.map_append, HS.out, HE2.out]; simp; omega, IV3.out.own, IV3.out.oks, IV3.out.fr, IV3.out.rise⟩
end Go.Proofs.YtopaeomjndblkaaGreat.Pg

namespace Go.Proofs.YtopaeomjndblkaaGreat.Pg

theorem rises_pair {a b : List UInt8} : ∀ {D : List (Nat × Nat)} {m : Nat}, Rises a b m D → (∀ k (hk : k < D.length), m ≤ (D[k]'hk).1 ∧ (D[k]'hk).1 < (D[k]'hk).2 ∧ byteAt a (D[k]'hk).1 ≠ byteAt b (D[k]'hk).1 ∧ byteAt a ((D[k]'hk).2 - 1) ≠ byteAt b ((D[k]'hk).2 - 1)) ∧ (∀ k l (hl : l < D.length) (hkl : k < l), (D[k]'(by omega)).2 + 8 ≤ (D[l]'hl).1)
  | [], _, _ => ⟨fun k hk => absurd hk (by simp), fun k l hl => absurd hl (by simp)⟩
  | (f, t) :: r, m, h => by
    obtain ⟨h1, h2, h3, h4, h5⟩ := h
    obtain ⟨p1, p2⟩ := rises_pair h5
    refine ⟨fun k hk => ?_, fun k l hl hkl => ?_⟩
    · cases k with
      | zero => exact ⟨h1, h2, h3, h4⟩
      | succ k =>
        have := p1 k (by simpa using hk)
        exact ⟨by have := this.1; simp only [List.getElem_cons_succ]; omega, this.2⟩
    · cases l with
      | zero => omega
      | succ l =>
        cases k with
        | zero => exact (p1 l (by simpa using hl)).1
        | succ k => exact p2 k l (by simpa using hl) (by omega)

/-- The end of the last of the first i spans. -/
def lastE (D : List (Nat × Nat)) (i : Nat) : Nat := if i = 0 then 0 else (D.getD (i - 1) (0, 0)).2

theorem diff_ends (a b : List UInt8) : ∀ x ∈ diffS a b, x.2 ≤ 512 := by
  intro x hx
  have ok := dwalk_ok a b 512
  unfold diffS at hx
  generalize dwalk a b 512 = s at ok hx
  unfold spansOf at hx
  have h1 := ok.le
  by_cases ht : s.2.2 = 0
  · rw [if_pos ht, (ok.none ht).1] at hx
    cases hx
  · rw [if_neg ht] at hx
    have h2 := ok.cur ht
    rcases List.mem_append.1 hx with h | h
    · have := h2.2.2.2 x h
      omega
    · have : x = (s.2.1, s.2.2) := by simpa using h
      subst this
      exact h1
theorem diff_rises (a b : List UInt8) : Rises a b 0 (diffS a b) := by
  have ok := dwalk_ok a b 512
  unfold diffS
  generalize dwalk a b 512 = s at ok
  unfold spansOf
  by_cases ht : s.2.2 = 0
  · rw [if_pos ht]
    exact ok.rises
  · rw [if_neg ht]
    obtain ⟨c1, c2, c3, c4⟩ := ok.cur ht
    exact ok.rises.snoc c4 (by omega) c1 c2 c3

structure TOk (a b : List UInt8) (L f t : Nat) : Prop where
  lt : f < t
  le : t ≤ 512
  ne0 : byteAt a f ≠ byteAt b f
  ne1 : byteAt a (t - 1) ≠ byteAt b (t - 1)
  gap : L = 0 ∨ L + 8 ≤ f
  same : ∀ j, L ≤ j → j < f → byteAt a j = byteAt b j

theorem lastE_succ (D : List (Nat × Nat)) (i : Nat) (h : i < D.length) : lastE D (i + 1) = (D[i]'h).2 := by
  unfold lastE
  rw [if_neg (by omega), Nat.add_sub_cancel, List.getD_eq_getElem?_getD, List.getElem?_eq_getElem h]
  rfl
theorem diff_same (a b : List UInt8) (i : Nat) (hi : i ≤ (diffS a b).length) (j : Nat) (hj : j < 512) (h1 : lastE (diffS a b) i ≤ j) (h2 : ∀ (h : i < (diffS a b).length), j < ((diffS a b)[i]'h).1) : byteAt a j = byteAt b j := by
  have ok := dwalk_ok a b 512
  obtain ⟨p1, p2⟩ := rises_pair (diff_rises a b)
  refine ok.out j hj (fun x hx hc => ?_)
  have hx' : x ∈ diffS a b := hx
  obtain ⟨k, hk, rfl⟩ := List.mem_iff_getElem.1 hx'
  have q := (p1 k hk).2.1
  by_cases hki : k < i
  · obtain ⟨i', rfl⟩ : ∃ i', i = i' + 1 := ⟨i - 1, by omega⟩
    rw [lastE_succ _ _ (by omega)] at h1
    by_cases hk2 : k = i'
    · subst hk2
      omega
    · have := p2 k i' (by omega) (by omega)
      have := (p1 i' (by omega)).2.1
      omega
  · have h3 := h2 (by omega)
    by_cases hk2 : k = i
    · subst hk2
      omega
    · have := p2 i k hk (by omega)
      have := (p1 i (by omega)).2.1
      omega
theorem diff_tok (a b : List UInt8) (i : Nat) (hi : i < (diffS a b).length) : TOk a b (lastE (diffS a b) i) ((diffS a b)[i]'hi).1 ((diffS a b)[i]'hi).2 := by
  obtain ⟨p1, p2⟩ := rises_pair (diff_rises a b)
  obtain ⟨q0, q1, q2, q3⟩ := p1 i hi
  have hle := diff_ends a b _ (List.getElem_mem hi)
  refine ⟨q1, hle, q2, q3, ?_, fun j h1 h2 => diff_same a b i (by omega) j (by omega) h1 (fun _ => h2)⟩
  by_cases h0 : i = 0
  · subst h0
    exact Or.inl rfl
  · obtain ⟨i', rfl⟩ : ∃ i', i = i' + 1 := ⟨i - 1, by omega⟩
    rw [lastE_succ _ _ (by omega)]
    exact Or.inr (p2 i' (i' + 1) hi (by omega))

/-- The first L bytes of one page, the rest of another. -/
def mixL (a b : List UInt8) (L : Nat) : List UInt8 := b.take L ++ a.drop L
theorem mixL_length (a b : List UInt8) (L : Nat) (ha : a.length = 512) (hb : b.length = 512) (hL : L ≤ 512) : (mixL a b L).length = 512 := by
  unfold mixL
  rw [List.length_append, List.length_take, List.length_drop]
  omega
theorem mixL_zero (a b : List UInt8) : mixL a b 0 = a := by simp [mixL]
theorem mixL_get (a b : List UInt8) (L j : Nat) (hb : L ≤ b.length) : (mixL a b L)[j]? = if j < L then b[j]? else a[j]? := by
  unfold mixL
  by_cases h : j < L
  · rw [if_pos h, List.getElem?_append_left (by rw [List.length_take]; omega), List.getElem?_take, if_pos h]
  · rw [if_neg h, List.getElem?_append_right (by rw [List.length_take]; omega), List.length_take, List.getElem?_drop]
    congr 1
    omega
theorem mixL_all (a b : List UInt8) (L : Nat) (ha : a.length = 512) (hb : b.length = 512) (hL : L ≤ 512) (h : ∀ j, L ≤ j → j < 512 → byteAt a j = byteAt b j) : mixL a b L = b := by
  apply List.ext_getElem?
  intro j
  rw [mixL_get _ _ _ _ (by omega)]
  by_cases hj : j < L
  · rw [if_pos hj]
  · rw [if_neg hj]
    by_cases hj2 : j < 512
    · have := h j (by omega) hj2
      rw [List.getElem?_eq_getElem (by omega), List.getElem?_eq_getElem (by omega)]
      congr 1
      have e1 : byteAt a j = a[j]'(by omega) := by simp [byteAt, ha, hj2]
      have e2 : byteAt b j = b[j]'(by omega) := by simp [byteAt, hb, hj2]
      rw [← e1, ← e2]
      exact this
    · rw [List.getElem?_eq_none (by omega), List.getElem?_eq_none (by omega)]
theorem mixL_step (a b : List UInt8) (L f t : Nat) (ha : a.length = 512) (hb : b.length = 512) (hL : L ≤ f) (ok : TOk a b L f t) : over (mixL a b L) f ((b.drop f).take (t - f)) = mixL a b t := by
  have k1 := ok.lt
  have k2 := ok.le
  have hf : mixL a b L = mixL a b f := by
    apply List.ext_getElem?
    intro j
    rw [mixL_get _ _ _ _ (by omega), mixL_get _ _ _ _ (by omega)]
    by_cases h1 : j < L
    · rw [if_pos h1, if_pos (by omega)]
    · rw [if_neg h1]
      by_cases h2 : j < f
      · rw [if_pos h2]
        have := ok.same j (by omega) h2
        rw [List.getElem?_eq_getElem (by omega), List.getElem?_eq_getElem (by omega)]
        congr 1
        have e1 : byteAt a j = a[j]'(by omega) := by simp [byteAt, ha, show j < 512 by omega]
        have e2 : byteAt b j = b[j]'(by omega) := by simp [byteAt, hb, show j < 512 by omega]
        rw [← e1, ← e2]
        exact this
      · rw [if_neg h2]
  rw [hf]
  unfold mixL
  rw [over_at _ _ _ _ (by rw [List.length_take]; omega), List.length_take, List.length_drop, List.drop_drop, ← List.append_assoc]
  rw [show min (t - f) (b.length - f) = t - f by omega, show f + (t - f) = t by omega]
  congr 1
  rw [show t = f + (t - f) by omega, List.take_add]
  congr 2
  omega
theorem TOk.symm {a b : List UInt8} {L f t : Nat} (h : TOk a b L f t) : TOk b a L f t := ⟨h.lt, h.le, fun e => h.ne0 e.symm, fun e => h.ne1 e.symm, h.gap, fun j h1 h2 => (h.same j h1 h2).symm⟩
end Go.Proofs.YtopaeomjndblkaaGreat.Pg

namespace Go.Proofs.YtopaeomjndblkaaGreat
open Go.RowKit Go.Maps
open Pg (SpE diffS)

theorem fr_pg {L : List Nat} {a b : World} (h : Pg.Fr L a b) : Fr L a b := ⟨h.os, h.tape, h.output, h.size, h.block⟩
/-- A row of spans: where each is, its two lists; the first k of them have their page. -/
def SpRow (w : World) (g k : Nat) (pg : Int) (S : List SpE) : Prop := ∃ cur : Array Value, w.heap[g]? = some (.cells cur 42) ∧ ∀ i e, S[i]? = some e → cur[i * 4]? = some (.int .i64 (if i < k then pg else 0)) ∧ cur[i * 4 + 1]? = some (.int .i64 (e.off : Int)) ∧ cur[i * 4 + 2]? = some (.slice (some ⟨e.bo, 0, none⟩) e.n e.n) ∧ cur[i * 4 + 3]? = some (.slice (some ⟨e.bn, 0, none⟩) e.n e.n)
theorem SpRow.kept {w w' : World} {g k : Nat} {pg : Int} {S : List SpE} {L : List Nat} (h : SpRow w g k pg S) (f : Fr L w w') (hg : g ∉ L) : SpRow w' g k pg S := by
  obtain ⟨cur, h1, h2⟩ := h
  exact ⟨cur, f.same hg h1, h2⟩
theorem SpRow.cells {w : World} {g k : Nat} {pg : Int} {S : List SpE} (h : SpRow w g k pg S) {i : Nat} {e : SpE} (hi : S[i]? = some e) : w.cell? ⟨g, i * 4, none⟩ = some (.int .i64 (if i < k then pg else 0)) ∧ w.cell? ⟨g, i * 4 + 1, none⟩ = some (.int .i64 (e.off : Int)) ∧ w.cell? ⟨g, i * 4 + 2, none⟩ = some (.slice (some ⟨e.bo, 0, none⟩) e.n e.n) ∧ w.cell? ⟨g, i * 4 + 3, none⟩ = some (.slice (some ⟨e.bn, 0, none⟩) e.n e.n) := by
  obtain ⟨cur, h1, h2⟩ := h
  obtain ⟨a, b, c, d⟩ := h2 i e hi
  exact ⟨by rw [cell_of_row w g _ _ _ _ h1]; exact a, by rw [cell_of_row w g _ _ _ _ h1]; exact b, by rw [cell_of_row w g _ _ _ _ h1]; exact c, by rw [cell_of_row w g _ _ _ _ h1]; exact d⟩
theorem SpRow.set {w : World} {g k : Nat} {pg : Int} {S : List SpE} (h : SpRow w g k pg S) : SpRow (w.setCell ⟨g, k * 4, none⟩ (.int .i64 pg)) g (k + 1) pg S := by
  obtain ⟨cur, h1, h2⟩ := h
  refine ⟨cur.setIfInBounds (k * 4) (.int .i64 pg), heap_setCell_same w g (k * 4) _ _ _ h1, fun i e hi => ?_⟩
  obtain ⟨a, b, c, d⟩ := h2 i e hi
  refine ⟨?_, ?_, ?_, ?_⟩
  · by_cases e1 : i = k
    · subst e1
      rw [if_pos (by omega)]
      have hl : i * 4 < cur.size := (Array.getElem?_eq_some_iff.1 a).1
      rw [Array.getElem?_setIfInBounds_self_of_lt hl]
    · rw [Array.getElem?_setIfInBounds_ne (by omega), a]
      by_cases e2 : i < k
      · rw [if_pos e2, if_pos (by omega)]
      · rw [if_neg e2, if_neg (by omega)]
  · rw [Array.getElem?_setIfInBounds_ne (by omega)]
    exact b
  · rw [Array.getElem?_setIfInBounds_ne (by omega)]
    exact c
  · rw [Array.getElem?_setIfInBounds_ne (by omega)]
    exact d
theorem diff_few (a b : List UInt8) : (diffS a b).length ≤ 57 := by
  have ok := Pg.dwalk_ok a b 512
  unfold diffS Pg.spansOf
  generalize Pg.dwalk a b 512 = s at ok
  by_cases ht : s.2.2 = 0
  · rw [if_pos ht, (ok.none ht).1]
    simp
  · rw [if_neg ht, List.length_append]
    have h1 := (ok.cur ht).1
    have h2 := ok.le
    have h3 := ok.few
    simp
    omega
/-- The spans at which a page differs from bytes, in memory. -/
structure Spans (w0 w : World) (la lb : List UInt8) (pg : Int) (AD : Option Addr) (N CAP : Nat) (S : List SpE) : Prop where
  eq : S.map (fun e => (e.off, e.off + e.n)) = diffS la lb
  len : S.length = N
  few : N ≤ 57
  cap : N ≤ CAP
  row : N = 0 ∨ ∃ g, AD = some ⟨g, 0, none⟩ ∧ w0.heap.size ≤ g ∧ SpRow w g N pg S
  blk : ∀ e ∈ S, Blk w e.bo ((la.drop e.off).take e.n) ∧ Blk w e.bn ((lb.drop e.off).take e.n)
  new : ∀ e ∈ S, w0.heap.size ≤ e.bo ∧ w0.heap.size ≤ e.bn
set_option maxHeartbeats 1000000 in
set_option maxRecDepth 100000 in
theorem differing_any (w : World) (page : Nat) (g1 o1 c1 g2 o2 c2 : Nat) (la lb : List UInt8) (h1 : Pg.At512 w g1 o1 c1 la) (h2 : Pg.At512 w g2 o2 c2 lb) :
    Calls Tryz.prog 97 #[.int .i64 (page : Int), .slice (some ⟨g1, o1, none⟩) 512 c1, .slice (some ⟨g2, o2, none⟩) 512 c2] w fun e w' => ∃ AD N CAP, e = .returned (.slice AD N CAP) ∧ (∃ S, Spans w w' la lb (page : Int) AD N CAP S) ∧ Fr [] w w' := by
  go_enter Tryz.func97, Tryz.ntmps97
  go_wp2_with fail
  refine (Pg.diff_512r w g1 o1 c1 g2 o2 c2 la lb h1 h2).mono ?_
  rintro e w1 ⟨AD, N, CAP, S, rfl, hS, own, hb, f1', hri⟩
  have f1 := fr_pg f1'
  have hlen : S.length = N := by
    have := own.1
    rw [Pg.spv_length] at this
    omega
  have hnew : ∀ e ∈ S, w.heap.size ≤ e.bo ∧ w.heap.size ≤ e.bn := fun e he => ⟨(hri.2 e.bo (List.mem_flatMap.2 ⟨e, he, by simp⟩)).1, (hri.2 e.bn (List.mem_flatMap.2 ⟨e, he, by simp⟩)).1⟩
  have hN57 : N ≤ 57 := by
    have h3 := diff_few la lb
    rw [← hS, List.length_map] at h3
    omega
  have HB := hidI hb
  have HS := hidI hS
  have HL := hidI hlen
  have HNW := hidI hnew
  clear hS hb f1' hri hlen hnew
  rcases own.2 with ⟨ev, hn0⟩ | ⟨g, cap, cur, ev, hbase, hg, hnc, hcm, hcs, ht⟩
  · cases ev
    clear own hn0
    go_wp2_with fail
    go_loopw [14] (fun s14 wr => s14 = .int .i64 0 ∧ wr = w1) (fun _ _ => 0)
    case atStart => exact ⟨rfl, rfl⟩
    case round =>
      obtain ⟨rfl, hwr⟩ := hrel
      subst hwr
      go_wp2_with fail
      go_ret
      exact ⟨none, 0, 0, rfl, ⟨S, HS.out, HL.out, hN57, Nat.le_refl _, Or.inl rfl, HB.out, HNW.out⟩, f1⟩
  · cases ev
    have row0 : SpRow w1 g 0 (page : Int) S := by
      refine ⟨cur, hg, fun i e hi => ?_⟩
      have hil := (List.getElem?_eq_some_iff.1 hi).1
      have hie : S[i] = e := (List.getElem?_eq_some_iff.1 hi).2
      have key : ∀ c, c < 4 → cur[i * 4 + c]? = e.vals[c]? := by
        intro c hc
        have h1 := Pg.spv_at S i hil c hc
        rw [hie, ← ht, List.getElem?_take, if_pos (by have := HL.out; omega)] at h1
        simpa using h1
      exact ⟨by rw [if_neg (by omega)]; exact key 0 (by omega), key 1 (by omega), key 2 (by omega), key 3 (by omega)⟩
    have HBK : Hid (∀ wr, Fr [g] w1 wr → ∀ e ∈ S, Blk wr e.bo ((la.drop e.off).take e.n) ∧ Blk wr e.bn ((lb.drop e.off).take e.n)) := hidI (fun wr f e he => by
      have hx := HB.out e he
      have key : ∀ b (l : List UInt8), Pg.Blk w1 b l → Blk wr b l := fun b l hbl => by
        have hne : b ≠ g := fun e => by
          subst e
          have h3 : w1.heap[b]? = some (.cells (arr l) 5) := hbl
          rw [hg] at h3
          cases h3
        exact f.same (by simpa using hne) hbl
      exact ⟨key _ _ hx.1, key _ _ hx.2⟩)
    have HG := hidI hg
    clear own hg ht hcs hcm
    go_wp2_with fail
    go_loopw [14] (fun s14 wr => ∃ k : Nat, s14 = .int .i64 (k : Int) ∧ k ≤ N ∧ Hid (SpRow wr g k (page : Int) S) ∧ Fr [g] w1 wr) (fun i _ => N - (intOf i).toNat)
    case atStart => exact ⟨0, rfl, by omega, hidI row0, Fr.refl _ _⟩
    case round =>
      obtain ⟨k, rfl, hk, HR, FR⟩ := hrel
      by_cases hlt : k < N
      · have q1 : (k : Int) < (N : Int) := by omega
        have q0 : (0 : Int) ≤ (k : Int) := by omega
        obtain ⟨e, he⟩ : ∃ e, S[k]? = some e := ⟨_, List.getElem?_eq_getElem (by have := HL.out; omega)⟩
        obtain ⟨k0, _, _, _⟩ := HR.out.cells he
        have z0 : wr.frozen? ⟨g, k * 4, none⟩ = false := by
          obtain ⟨cur', hc', _⟩ := HR.out
          exact frozen_of_row wr g _ _ _ hc'
        clear he
        have R2 := HR.out.set
        have F2 := FR.setCell ⟨g, k * 4, none⟩ (.int .i64 (page : Int)) (fun _ => by simp)
        go_wp2_with fail
        refine ⟨⟨k + 1, by go_num, by omega, hidI R2, F2⟩, ?_⟩
        simp [intOf]
        omega
      · have q1 : ¬ (k : Int) < (N : Int) := by omega
        obtain rfl : k = N := by omega
        go_wp2_with fail
        go_ret
        exact ⟨_, _, _, rfl, ⟨S, HS.out, HL.out, hN57, hnc, Or.inr ⟨g, rfl, hbase, HR.out⟩, HBK.out _ FR, HNW.out⟩, f1.then FR (fun i hi e => by simp at e; omega)⟩
/-- How many bytes of log spans want: their records, and those of their undoing. -/
def sumN : List SpE → Int
  | [] => 0
  | e :: S => 94 + 3 * (e.n : Int) + sumN S
theorem sumN_app (S T : List SpE) : sumN (S ++ T) = sumN S + sumN T := by
  induction S with
  | nil => simp [sumN]
  | cons e S ih => simp [sumN, ih]; omega
theorem sumN_bound : ∀ (S : List SpE), (∀ e ∈ S, e.n ≤ 512) → 0 ≤ sumN S ∧ sumN S ≤ 2000 * (S.length : Int)
  | [], _ => by simp [sumN]
  | e :: S, h => by
    have h1 := sumN_bound S (fun x hx => h x (List.mem_cons_of_mem _ hx))
    have h2 := h e List.mem_cons_self
    simp only [sumN, List.length_cons]
    omega
theorem undoing_any (w : World) (p q : Int) (a1 a2 : Option Addr) (n1 c1 n2 c2 : Nat) (h : n2 ≤ 1000000) : Calls Tryz.prog 196 #[.agg #[.int .i64 p, .int .i64 q, .slice a1 n1 c1, .slice a2 n2 c2]] w fun e w' => e = .returned (.int .i64 (51 + (n2 : Int))) ∧ Fr [] w w' := by
  have e1 : IntKind.i64.wrap (51 + (n2 : Int)) = 51 + (n2 : Int) := wrapI _ (by omega) (by omega)
  go_enter Tryz.func196, Tryz.ntmps196
  go_wp2
  go_ret
  exact ⟨by go_num, (Fr.refl [] w).alloc _⟩
set_option maxHeartbeats 2000000 in
set_option maxRecDepth 100000 in
theorem needs_any {w : World} {dp : Nat} {t : Dl} (hd : DlAt w dp t) (hk0 : 0 ≤ t.kept) (hk1 : t.kept ≤ 1000000) {w0 : World} {la lb : List UInt8} {pg : Int} {AD : Option Addr} {N CAP : Nat} {S : List SpE} (hS : Spans w0 w la lb pg AD N CAP S) (hn : ∀ e ∈ S, e.n ≤ 512) :
    Calls Tryz.prog 98 #[.pointer (some ⟨dp, 0, none⟩), .slice AD N CAP] w fun e w' => e = .returned (.int .i64 (t.kept + 35 + sumN S)) ∧ Fr [] w w' := by
  have d6 := hd.c6
  have HS := hidI hS
  have HN := hidI hn
  have hN := hS.few
  clear hS hn hd
  go_enter Tryz.func98, Tryz.ntmps98
  go_wp2_with fail
  go_loopw [5, 15] (fun s5 s15 wr => ∃ k : Nat, ∃ M : Int, s5 = .int .i64 M ∧ M = t.kept + 35 + sumN (S.take k) ∧ s15 = .int .i64 (k : Int) ∧ k ≤ N ∧ Fr [] w wr) (fun _ i _ => N - (intOf i).toNat)
  case atStart => exact ⟨0, t.kept + 35, by go_num, by simp [sumN], rfl, by omega, Fr.refl _ _⟩
  case round =>
    obtain ⟨k, M, rfl, hM, rfl, hk, FR⟩ := hrel
    have HM := hidI hM
    have hM0 : 0 ≤ M ∧ M ≤ 1200000 := by
      have h1 := sumN_bound (S.take k) (fun e he => HN.out e (List.mem_of_mem_take he))
      have h2 : (S.take k).length ≤ 57 := by rw [List.length_take, HS.out.len]; omega
      rw [hM]
      omega
    clear hM
    by_cases hlt : k < N
    · have q1 : (k : Int) < (N : Int) := by omega
      have q0 : (0 : Int) ≤ (k : Int) := by omega
      obtain ⟨e, he⟩ : ∃ e, S[k]? = some e := ⟨_, List.getElem?_eq_getElem (by have := HS.out.len; omega)⟩
      obtain ⟨g, hAD, hg0, hrow⟩ : ∃ g, AD = some ⟨g, 0, none⟩ ∧ w0.heap.size ≤ g ∧ SpRow w g N pg S := HS.out.row.resolve_left (by omega)
      subst hAD
      obtain ⟨k0, k1, k2, k3⟩ := (hrow.kept FR (by simp)).cells he
      rw [if_pos hlt] at k0
      have hen : e.n ≤ 512 := HN.out e (List.mem_of_getElem? he)
      have HE := hidI he
      clear he hrow
      have fa : Fr [] wr (wr.alloc (.cells #[.int .i64 pg, .int .i64 (e.off : Int), .slice (some ⟨e.bo, 0, none⟩) e.n e.n, .slice (some ⟨e.bn, 0, none⟩) e.n e.n] 42)) := (Fr.refl [] wr).alloc _
      have ha := heap_alloc_new wr (.cells #[.int .i64 pg, .int .i64 (e.off : Int), .slice (some ⟨e.bo, 0, none⟩) e.n e.n, .slice (some ⟨e.bn, 0, none⟩) e.n e.n] 42)
      go_wp2_with fail
      generalize (wr.alloc (.cells #[.int .i64 pg, .int .i64 (e.off : Int), .slice (some ⟨e.bo, 0, none⟩) e.n e.n, .slice (some ⟨e.bn, 0, none⟩) e.n e.n] 42)) = w5 at fa ha ⊢
      obtain ⟨Z, HZ⟩ : ∃ Z, Hid (wr.heap.size = Z) := ⟨_, rfl⟩
      rw [HZ.out] at ha ⊢
      have b0 := cell_of_row w5 Z 0 _ _ _ ha
      have b1 := cell_of_row w5 Z 1 _ _ _ ha
      have b2 := cell_of_row w5 Z 2 _ _ _ ha
      have b3 := cell_of_row w5 Z 3 _ _ _ ha
      have e43 : IntKind.i64.wrap (2 * (e.n : Int)) = 2 * (e.n : Int) := wrapI _ (by omega) (by omega)
      have e44 : IntKind.i64.wrap (43 + 2 * (e.n : Int)) = 43 + 2 * (e.n : Int) := wrapI _ (by omega) (by omega)
      have e45 : IntKind.i64.wrap (43 + 2 * (e.n : Int) + (51 + (e.n : Int))) = 94 + 3 * (e.n : Int) := by rw [wrapI _ (by omega) (by omega)]; omega
      have e46 : IntKind.i64.wrap (M + (94 + 3 * (e.n : Int))) = M + (94 + 3 * (e.n : Int)) := wrapI _ (by omega) (by omega)
      go_region_law ((go_simp; go_at_call 196; refine (undoing_any _ _ _ _ _ _ _ _ _ (by omega)).mono ?_; rintro e6 w6 ⟨rfl, f6⟩; have f56 : Fr [] w5 w6 := (Fr.refl [] w5).drew.trans f6; have g3 := cell_of_row w6 Z 3 _ _ _ (f56.same (by simp) ha)))
      all_goals
        go_wp2_with fail
        refine ⟨⟨k + 1, M + (94 + 3 * (e.n : Int)), by go_num, ?_, by go_num, by omega, ?_⟩, ?_⟩
        · rw [HM.out, List.take_add_one, HE.out, sumN_app]
          simp [sumN]
          omega
        · exact (FR.trans fa).trans f56
        · simp [intOf]
          omega
    · have q1 : ¬ (k : Int) < (N : Int) := by omega
      obtain rfl : k = N := by omega
      go_wp2_with fail
      go_ret
      refine ⟨?_, FR⟩
      rw [HM.out, List.take_of_length_le (by have := HS.out.len; omega)]
      rfl
end Go.Proofs.YtopaeomjndblkaaGreat

