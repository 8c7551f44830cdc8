/-
  Nodes, whatever they are.
-/
import Derived.Test.YtjdcfaaoicnajaaDoorPNode2
import Derived.Test.YtjdcfaaoicnajaaDoorTNodes
namespace Go.Proofs.YtjdcfaaoicnajaaDoor
open Go.RowKit Go.Maps Go.Lib

theorem first_kid {t : List Nd} (O : Ords t) {x : Nat} (hx : x < t.length) : x + 1 ≤ endOf t x ∧ (x + 1 = endOf t x ∨ par t (x + 1) = (x : Int)) := by
  have E := endOf_is (t := t) (k := (x : Int)) (by omega) (by omega)
  have h1 := E.gt
  have h2 := E.le
  refine ⟨by omega, ?_⟩
  rcases Nat.lt_or_ge (x + 1) (endOf t x) with h | h
  · right
    have h5 := E.all (x + 1) (by omega) h
    have := (O (x + 1) (by omega)).2.1
    omega
  · left; omega
theorem WAt.boxed {w0 w wa wb : World} {b g : Nat} {S : List Nat} {l : List UInt8} {cs : Array Value} {T : TypeId} (h : WAt w0 w b S l) (hg : w.heap.size ≤ g) (fa : Fr [] w wa) (fb : Fr [g] wa wb) (hc : Cells wb g T cs) : WAt w0 wb b (g :: S) l ∧ Keep S w wb := by
  have f1 : Fr [g] w wb := (fa.mono (by simp)).trans fb
  have f2 : Fr [] w wb := ⟨f1.os, f1.tape, f1.output, f1.size, fun k hk _ => f1.block k hk (by simp; omega)⟩
  exact ⟨h.more f2 hg hc.lt, Keep.of_fr f2 h.lt'⟩
theorem sub_cons {S : List Nat} {g : Nat} : ∀ k ∈ S, k ∈ g :: S := fun _ hk => List.mem_cons_of_mem _ hk
theorem cat_att (NM : ByteArray) : cat [NM, ⟨#[61]⟩] = bl NM ++ [61] := by rw [cat_cons, cat_cons, cat_nil, List.append_nil]; rfl
theorem cat_com (VL : ByteArray) : cat [⟨#[60, 33, 45, 45]⟩, VL, ⟨#[45, 45, 62]⟩] = [60, 33, 45, 45] ++ bl VL ++ [45, 45, 62] := by rw [cat_cons, cat_cons, cat_cons, cat_nil, List.append_nil, List.append_assoc]; rfl
section
variable {t : List Nd} {b0 off c n : Nat}
set_option maxHeartbeats 8000000 in
set_option maxRecDepth 100000 in
theorem node_step (G : Good t) (hl : t.length ≤ 16384) (IH : NodeC t b0 off c n) : NodeC t b0 off c (n + 1) := by
  intro w0 w b S l x h hN hx hn hm
  have hNw := hN.kept h.fr (by simp)
  obtain ⟨c0, c1, c2, c3⟩ := hNw x hx
  have hx0 : (0 : Int) ≤ (x : Int) := by omega
  have hxl : (x : Int) < (t.length : Int) := by omega
  have hl' : (t.length : Int) ≤ 16384 := by omega
  have hv : (vlu t x).size ≤ 1000000 := by have := (G x hx).2.1.2; omega
  have HV := Hid.mk hv
  have HW := Hid.mk h
  have hkk : knd t x = 1 ∨ knd t x = 2 ∨ knd t x = 3 ∨ knd t x = 4 ∨ knd t x = 5 ∨ knd t x = 6 := by
    rcases (G x hx).2.2 with f | f | f | f | f | f
    · exact Or.inl f.1
    · exact Or.inr (Or.inl f.1)
    · exact Or.inr (Or.inr (Or.inl f.1))
    · exact Or.inr (Or.inr (Or.inr (Or.inl f.1)))
    · exact Or.inr (Or.inr (Or.inr (Or.inr (Or.inl f.1))))
    · exact Or.inr (Or.inr (Or.inr (Or.inr (Or.inr f.1))))
  have hleaf : knd t x ≠ 1 → knd t x ≠ 2 → outN t (n + 1) x = leafO (knd t x) (nam t x) (vlu t x) ∧ endOf t x = x + 1 := fun h1 h2 => ⟨outN_leaf (by omega) h1 h2, end_leaf G hx h1 h2⟩
  rcases hkk with hk | hk | hk | hk | hk | hk
  · have eO : outN t (n + 1) x = runO (outN t n) t x (x + 1) := by rw [outN, if_pos hk]
    rw [eO] at hm
    obtain ⟨q1, q2⟩ := first_kid G.ords hx
    have cK := Hid.mk (fun w' S' (h' : WAt w0 w' b S' l) => wkids_any t G b0 off c n IH w0 w' b S' l x (x + 1) h' hN hx (by omega) q1 q2 hn hm)
    have HEO := Hid.mk eO
    rw [hk] at c0
    generalize nam t x = NM at c1
    generalize vlu t x = VL at c2
    generalize par t x = p at c3
    rw [show ((x + 1 : Nat) : Int) = (x : Int) + 1 by omega] at cK
    clear h hN hm eO q1 q2 hNw hk hv hleaf
    go_enter Tryd.func32, Tryd.ntmps32
    go_wp2_with (first
      | (refine wp_alloc 37 rfl rfl _ zeroN _ rfl ?_; intro wa ga hga hca fa)
      | (refine wp_storeC 37 rfl _ _ rfl ga _ (ndC 1 NM VL p) rfl rfl hca infoN rfl (ndC_one _ _ _ _) ?_; intro wb hcb fb; have BX := Hid.mk (HW.out.boxed hga fa fb hcb); have n0 : wb.cell? ⟨ga, 0, none⟩ = some (.int .u8 1) := hcb.cell 0; clear hca fa fb c0 c1 c2 c3)
      | (go_at_call 41; refine (cK.out _ (ga :: S) BX.out.1).mono ?_; rintro e w6 ⟨rfl, a6, k6⟩))
    go_ret
    exact ⟨rfl, by rw [HEO.out]; exact a6.less sub_cons, BX.out.2.trans (k6.sub sub_cons)⟩
  · have eO : outN t (n + 1) x = elO (outN t n) t x := by rw [outN, if_neg (by omega), if_pos hk]
    rw [eO] at hm
    have cK := Hid.mk (fun w' S' (h' : WAt w0 w' b S' l) => welem_any t G hl b0 off c n IH w0 w' b S' l x h' hN hx hn hm)
    have HEO := Hid.mk eO
    rw [hk] at c0
    generalize nam t x = NM at c1
    generalize vlu t x = VL at c2
    generalize par t x = p at c3
    clear h hN hm eO hNw hk hv hleaf
    go_enter Tryd.func32, Tryd.ntmps32
    go_wp2_with (first
      | (refine wp_alloc 37 rfl rfl _ zeroN _ rfl ?_; intro wa ga hga hca fa)
      | (refine wp_storeC 37 rfl _ _ rfl ga _ (ndC 2 NM VL p) rfl rfl hca infoN rfl (ndC_one _ _ _ _) ?_; intro wb hcb fb; have BX := Hid.mk (HW.out.boxed hga fa fb hcb); have n0 : wb.cell? ⟨ga, 0, none⟩ = some (.int .u8 2) := hcb.cell 0; clear hca fa fb c0 c1 c2 c3)
      | (go_at_call 42; refine (cK.out _ (ga :: S) BX.out.1).mono ?_; rintro e w6 ⟨rfl, a6, k6⟩))
    go_ret
    exact ⟨rfl, by rw [HEO.out]; exact a6.less sub_cons, BX.out.2.trans (k6.sub sub_cons)⟩
  · obtain ⟨eO, eE⟩ := hleaf (by omega) (by omega)
    have e3 : leafO (knd t x) (nam t x) (vlu t x) = bl (nam t x) ++ [61] ++ quoV (vlu t x) := by unfold leafO; rw [if_pos hk]
    rw [e3] at eO
    rw [eO] at hm
    have HEO := Hid.mk eO
    have HEE := Hid.mk eE
    rw [hk] at c0
    generalize nam t x = NM at c1 hm HEO
    generalize vlu t x = VL at c2 hm HEO HV
    generalize par t x = p at c3
    simp only [List.length_append, List.length_cons, List.length_nil] at hm
    have HM := Hid.mk hm
    have cP := Hid.mk (fun w' S' (h' : WAt w0 w' b S' l) => put_new w0 w' b 2 2 S' l h' [NM, ⟨#[61]⟩] #[.string NM, .string ⟨#[61]⟩] rfl rfl (by omega) (by rw [cat_att]; simp only [List.length_append, List.length_cons, List.length_nil]; have := HM.out; omega))
    rw [cat_att] at cP
    have cV := Hid.mk (fun w' S' (h' : WAt w0 w' b S' (l ++ (bl NM ++ [61]))) => wvalue_any w0 w' b S' _ h' VL HV.out (by simp only [List.length_append, List.length_cons, List.length_nil]; have := HM.out; omega))
    clear h hN hm eO eE hNw hk hv hleaf e3
    go_enter Tryd.func32, Tryd.ntmps32
    go_wp2_with (first
      | (refine wp_alloc 37 rfl rfl _ zeroN _ rfl ?_; intro wa ga hga hca fa)
      | (refine wp_storeC 37 rfl _ _ rfl ga _ (ndC 3 NM VL p) rfl rfl hca infoN rfl (ndC_one _ _ _ _) ?_; intro wb hcb fb; have BX := Hid.mk (HW.out.boxed hga fa fb hcb); have HCB := Hid.mk hcb; have n0 : wb.cell? ⟨ga, 0, none⟩ = some (.int .u8 3) := hcb.cell 0; have n1 : wb.cell? ⟨ga, 1, none⟩ = some (.string NM) := hcb.cell 1; clear hca fa fb c0 c1 c2 c3 hcb)
      | (go_at_call 38; refine (cP.out _ (ga :: S) BX.out.1).mono ?_; rintro e w6 ⟨rfl, a6, k6⟩; have hc6 : Cells w6 ga 37 (ndC 3 NM VL p) := (k6 ga List.mem_cons_self).trans HCB.out; have n2 : w6.cell? ⟨ga, 2, none⟩ = some (.string VL) := hc6.cell 2; have hl6 := hc6.lt; have A6 := Hid.mk a6; have K6 := Hid.mk k6; clear a6 k6 hc6)
      | (go_at_call 28; refine (cV.out _ (ga :: S) A6.out).mono ?_; rintro e w7 ⟨rfl, a7, k7⟩))
    go_ret
    refine ⟨by rw [HEE.out]; rfl, ?_, BX.out.2.trans ((K6.out.trans k7).sub sub_cons)⟩
    rw [HEO.out]
    simp only [List.append_assoc] at a7 ⊢
    exact a7.less sub_cons
  · obtain ⟨eO, eE⟩ := hleaf (by omega) (by omega)
    have e3 : leafO (knd t x) (nam t x) (vlu t x) = escT (vlu t x) := by unfold leafO; rw [if_neg (by omega), if_pos hk]
    rw [e3] at eO
    rw [eO] at hm
    have HEO := Hid.mk eO
    have HEE := Hid.mk eE
    rw [hk] at c0
    generalize nam t x = NM at c1
    generalize vlu t x = VL at c2 hm HEO HV
    generalize par t x = p at c3
    have cV := Hid.mk (fun w' S' (h' : WAt w0 w' b S' l) => wtext_any w0 w' b S' _ h' VL HV.out hm)
    clear h hN hm eO eE hNw hk hv hleaf e3
    go_enter Tryd.func32, Tryd.ntmps32
    go_wp2_with (first
      | (refine wp_alloc 37 rfl rfl _ zeroN _ rfl ?_; intro wa ga hga hca fa)
      | (refine wp_storeC 37 rfl _ _ rfl ga _ (ndC 4 NM VL p) rfl rfl hca infoN rfl (ndC_one _ _ _ _) ?_; intro wb hcb fb; have BX := Hid.mk (HW.out.boxed hga fa fb hcb); have n0 : wb.cell? ⟨ga, 0, none⟩ = some (.int .u8 4) := hcb.cell 0; have n2 : wb.cell? ⟨ga, 2, none⟩ = some (.string VL) := hcb.cell 2; clear hca fa fb c0 c1 c2 c3 hcb)
      | (go_at_call 26; refine (cV.out _ (ga :: S) BX.out.1).mono ?_; rintro e w7 ⟨rfl, a7, k7⟩))
    go_ret
    exact ⟨by rw [HEE.out]; rfl, by rw [HEO.out]; exact a7.less sub_cons, BX.out.2.trans (k7.sub sub_cons)⟩
  · obtain ⟨eO, eE⟩ := hleaf (by omega) (by omega)
    have e3 : leafO (knd t x) (nam t x) (vlu t x) = [60, 33, 45, 45] ++ bl (vlu t x) ++ [45, 45, 62] := by unfold leafO; rw [if_neg (by omega), if_neg (by omega), if_pos hk]
    rw [e3] at eO
    rw [eO] at hm
    have HEO := Hid.mk eO
    have HEE := Hid.mk eE
    rw [hk] at c0
    generalize nam t x = NM at c1
    generalize vlu t x = VL at c2 hm HEO
    generalize par t x = p at c3
    have cV := Hid.mk (fun w' S' (h' : WAt w0 w' b S' l) => put_new w0 w' b 3 3 S' l h' [⟨#[60, 33, 45, 45]⟩, VL, ⟨#[45, 45, 62]⟩] #[.string ⟨#[60, 33, 45, 45]⟩, .string VL, .string ⟨#[45, 45, 62]⟩] rfl rfl (by omega) (by rw [cat_com]; exact hm))
    rw [cat_com] at cV
    clear h hN hm eO eE hNw hk hv hleaf e3
    go_enter Tryd.func32, Tryd.ntmps32
    go_wp2_with (first
      | (refine wp_alloc 37 rfl rfl _ zeroN _ rfl ?_; intro wa ga hga hca fa)
      | (refine wp_storeC 37 rfl _ _ rfl ga _ (ndC 5 NM VL p) rfl rfl hca infoN rfl (ndC_one _ _ _ _) ?_; intro wb hcb fb; have BX := Hid.mk (HW.out.boxed hga fa fb hcb); have n0 : wb.cell? ⟨ga, 0, none⟩ = some (.int .u8 5) := hcb.cell 0; have n2 : wb.cell? ⟨ga, 2, none⟩ = some (.string VL) := hcb.cell 2; clear hca fa fb c0 c1 c2 c3 hcb)
      | (go_at_call 38; refine (cV.out _ (ga :: S) BX.out.1).mono ?_; rintro e w7 ⟨rfl, a7, k7⟩))
    go_ret
    exact ⟨by rw [HEE.out]; rfl, by rw [HEO.out]; exact a7.less sub_cons, BX.out.2.trans (k7.sub sub_cons)⟩
  · obtain ⟨eO, eE⟩ := hleaf (by omega) (by omega)
    rw [hk] at eO
    rw [eO] at hm
    have HEO := Hid.mk eO
    have HEE := Hid.mk eE
    rw [hk] at c0
    generalize nam t x = NM at c1 hm HEO
    generalize vlu t x = VL at c2 hm HEO
    generalize par t x = p at c3
    have cV := Hid.mk (fun w' S' (h' : WAt w0 w' b S' l) => winstr_any w0 w' b S' l h' NM VL hm)
    clear h hN hm eO eE hNw hk hv hleaf
    go_enter Tryd.func32, Tryd.ntmps32
    go_wp2_with (first
      | (refine wp_alloc 37 rfl rfl _ zeroN _ rfl ?_; intro wa ga hga hca fa)
      | (refine wp_storeC 37 rfl _ _ rfl ga _ (ndC 6 NM VL p) rfl rfl hca infoN rfl (ndC_one _ _ _ _) ?_; intro wb hcb fb; have BX := Hid.mk (HW.out.boxed hga fa fb hcb); have n0 : wb.cell? ⟨ga, 0, none⟩ = some (.int .u8 6) := hcb.cell 0; have n1 : wb.cell? ⟨ga, 1, none⟩ = some (.string NM) := hcb.cell 1; have n2 : wb.cell? ⟨ga, 2, none⟩ = some (.string VL) := hcb.cell 2; clear hca fa fb c0 c1 c2 c3 hcb)
      | (go_at_call 43; refine (cV.out _ (ga :: S) BX.out.1).mono ?_; rintro e w7 ⟨rfl, a7, k7⟩))
    go_ret
    exact ⟨by rw [HEE.out]; rfl, by rw [HEO.out]; exact a7.less sub_cons, BX.out.2.trans (k7.sub sub_cons)⟩
theorem node_any (G : Good t) (hl : t.length ≤ 16384) : ∀ n, NodeC t b0 off c n
  | 0 => fun w0 w b S l x _ _ hx hn _ => by omega
  | n + 1 => node_step G hl (node_any G hl n)
end
end Go.Proofs.YtjdcfaaoicnajaaDoor
