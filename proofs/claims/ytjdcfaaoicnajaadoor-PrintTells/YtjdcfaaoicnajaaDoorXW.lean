/-
  The document's own: nodes with children.
-/
import Derived.Test.YtjdcfaaoicnajaaDoorPRef2
namespace Go.Proofs.YtjdcfaaoicnajaaDoor
open Go.Lib

theorem range_cut (a b c : Nat) (h1 : a ≤ b) (h2 : b ≤ c) : List.range' a (c - a) = List.range' a (b - a) ++ List.range' b (c - b) := by
  rw [show c - a = (b - a) + (c - b) by omega, ← List.range'_append_1, show a + (b - a) = b by omega]
theorem filter_none {p : Nat → Bool} {l : List Nat} (h : ∀ x ∈ l, p x = false) : l.filter p = [] := by
  rw [List.filter_eq_nil_iff]
  intro x hx
  rw [h x hx]
  exact Bool.false_ne_true
theorem kids_run {t : List Nd} (G : Good t) (f : Nat → List UInt8) {k : Nat} (hk : k < t.length) (hna : ∀ j, k < j → j < endOf t k → par t j = (k : Int) → attE t k ≤ j → knd t j ≠ 3) :
    ∀ m y, endOf t k - y ≤ m → k < y → attE t k ≤ y → y ≤ endOf t k → (y = endOf t k ∨ par t y = (k : Int)) → runO f t k y = (((List.range' y (endOf t k - y)).filter (isKid t k)).map f).flatten
  | 0, y, hm, hy, _, hle, _ => by
    have e : y = endOf t k := by omega
    have E := endOf_is (t := t) (k := (k : Int)) (by omega) (by omega)
    rw [runO_end (fun ⟨h1, h2⟩ => by rw [e] at h1 h2; have := E.stop h1; omega), show endOf t k - y = 0 by omega]
    rfl
  | m + 1, y, hm, hy, ha, hle, hp => by
    have E := endOf_is (t := t) (k := (k : Int)) (by omega) (by omega)
    by_cases e : y = endOf t k
    · rw [runO_end (fun ⟨h1, h2⟩ => by rw [e] at h1 h2; have := E.stop h1; omega), show endOf t k - y = 0 by omega]
      rfl
    · have hp' := hp.resolve_left e
      have hlt : y < endOf t k := by omega
      obtain ⟨q1, q2, q3, q4⟩ := child_next G.ords hk hy hlt hp'
      have ih := kids_run G f hk hna m (endOf t y) (by omega) (by omega) (by omega) q2 q3
      have h3 := hna y hy hlt hp' ha
      rw [runO_step (by have := E.le; omega) hp', ih]
      rw [range_cut y (y + 1) (endOf t k) (by omega) (by omega), range_cut (y + 1) (endOf t y) (endOf t k) (by omega) q2, List.filter_append, List.filter_append]
      have e1 : (List.range' y (y + 1 - y)).filter (isKid t k) = [y] := by
        rw [show y + 1 - y = 1 by omega]
        simp [isKid, nat3, hp', h3]
      have e2 : (List.range' (y + 1) (endOf t y - (y + 1))).filter (isKid t k) = [] := filter_none fun x hx => by
        have := List.mem_range'_1.1 hx
        have h5 := q4 x (by omega) (by omega)
        simp [isKid, h5]
      rw [e1, e2, List.nil_append, List.map_append, List.flatten_append]
      simp
theorem att_kids {t : List Nd} {k : Nat} (hk : k < t.length) : (List.range' (k + 1) (attE t k - (k + 1))).filter (isKid t k) = [] := filter_none fun x hx => by
  have h1 := List.mem_range'_1.1 hx
  have h2 := (attE_is hk).gt
  have h3 := ((attE_is hk).all x (by omega) (by omega)).2
  simp [isKid, nat3, h3]
theorem no_att {t : List Nd} (G : Good t) {k : Nat} (hk : k < t.length) : ∀ j, k < j → j < endOf t k → par t j = (k : Int) → attE t k ≤ j → knd t j ≠ 3 := fun j h1 h2 h3 h4 h5 => by
  have hl := (endOf_is (t := t) (k := (k : Int)) (by omega) (by omega)).le
  have := att_iff G hk (by omega) h3 h5
  omega
theorem kidsL_run {t : List Nd} (G : Good t) (f : Nat → List UInt8) {k : Nat} (hk : k < t.length) : ((kidsL t k).map f).flatten = runO f t k (attE t k) ∧ (kidsL t k = [] ↔ ¬ (attE t k < t.length ∧ par t (attE t k) = (k : Int))) := by
  obtain ⟨q1, q2⟩ := att_end G hk
  have hgt := (attE_is hk).gt
  have E := endOf_is (t := t) (k := (k : Int)) (by omega) (by omega)
  have e : kidsL t k = (List.range' (attE t k) (endOf t k - attE t k)).filter (isKid t k) := by
    unfold kidsL kidsTo
    rw [show ((k : Int) + 1).toNat = k + 1 by omega, range_cut (k + 1) (attE t k) (endOf t k) (by omega) q1, List.filter_append, att_kids hk, List.nil_append]
  refine ⟨?_, ?_⟩
  · rw [e, kids_run G f hk (no_att G hk) _ (attE t k) (Nat.le_refl _) hgt (Nat.le_refl _) q1 q2]
  · rw [e]
    constructor
    · intro h hc
      have hlt : attE t k < endOf t k := by
        rcases Nat.lt_or_ge (attE t k) (endOf t k) with h5 | h5
        · exact h5
        · exfalso
          have h6 : attE t k = endOf t k := by omega
          have := E.stop (by rw [← h6]; exact hc.1)
          rw [← h6] at this
          omega
      have hm : attE t k ∈ (List.range' (attE t k) (endOf t k - attE t k)).filter (isKid t k) := by
        rw [List.mem_filter]
        refine ⟨List.mem_range'_1.2 (by omega), ?_⟩
        have h3 := no_att G hk (attE t k) hgt hlt hc.2 (Nat.le_refl _)
        simp [isKid, nat3, hc.2, h3]
      rw [h] at hm
      cases hm
    · intro h
      have : attE t k = endOf t k := by
        rcases q2 with h5 | h5
        · exact h5
        · have h6 : ¬ attE t k < t.length := fun h7 => h ⟨h7, h5⟩
          have := E.le
          omega
      rw [this, Nat.sub_self]
      rfl
theorem root_att {t : List Nd} (G : Good t) {k : Nat} (hk : k < t.length) (h1 : knd t k = 1) : attE t k = k + 1 := by
  have A := attE_is hk
  have hgt := A.gt
  rcases Nat.lt_or_ge (k + 1) (attE t k) with h | h
  · exfalso
    obtain ⟨hp, h3⟩ := A.all (k + 1) (by omega) h
    have hl := A.le
    rcases (G (k + 1) (by omega)).2.2 with f | f | f | f | f | f
    · omega
    · omega
    · have := f.2.1.2
      rw [hp, Int.toNat_natCast] at this
      omega
    · omega
    · omega
    · omega
  · omega
theorem kidsTo_all {t : List Nd} (O : Ords t) {k : Nat} (hk : k < t.length) : kidsTo t k t.length = kidsL t k := by
  have E := endOf_is (t := t) (k := (k : Int)) (by omega) (by omega)
  have h1 := E.gt
  have h2 := E.le
  unfold kidsL kidsTo
  rw [show ((k : Int) + 1).toNat = k + 1 by omega, range_cut (k + 1) (endOf t k) t.length (by omega) h2, List.filter_append]
  have e : (List.range' (endOf t k) (t.length - endOf t k)).filter (isKid t k) = [] := filter_none fun x hx => by
    have h5 := List.mem_range'_1.1 hx
    have h6 := E.stop (by omega)
    have h7 : par t x ≠ (k : Int) := fun e => by
      rcases Nat.lt_or_ge (endOf t k) x with h8 | h8
      · have := (O x (by omega)).2.2 (endOf t k) h8 (by omega)
        omega
      · have : x = endOf t k := by omega
        rw [this] at e
        omega
    simp [isKid, h7]
  rw [e, List.append_nil]
/-- What is printed of a node with children. -/
theorem outN_root {t : List Nd} (G : Good t) {n x : Nat} (hx : x < t.length) (h1 : knd t x = 1) : outN t (n + 1) x = ((kidsL t x).map (outN t n)).flatten := by
  rw [outN, if_pos h1, (kidsL_run G (outN t n) hx).1, root_att G hx h1]
theorem outN_elem {t : List Nd} (G : Good t) {n x : Nat} (hx : x < t.length) (h2 : knd t x = 2) :
    outN t (n + 1) x = [60] ++ bl (nam t x) ++ attO t (x + 1) (attE t x) ++ (if (kidsL t x).length = 0 then [47, 62] else [62] ++ ((kidsL t x).map (outN t n)).flatten ++ ([60, 47] ++ bl (nam t x) ++ [62])) := by
  rw [outN, if_neg (by omega), if_pos h2]
  unfold elO
  obtain ⟨e1, e2⟩ := kidsL_run G (outN t n) hx
  rw [e1]
  congr 1
  by_cases c : attE t x < t.length ∧ par t (attE t x) = (x : Int)
  · rw [if_pos c, if_neg (fun h => e2.1 (List.eq_nil_of_length_eq_zero h) c)]
  · rw [if_neg c, if_pos (by rw [e2.2 c]; rfl)]
end Go.Proofs.YtjdcfaaoicnajaaDoor

namespace Go.Proofs.YtjdcfaaoicnajaaDoor
open Go.RowKit Go.Maps Go.Lib

theorem kidsTo_len' (t : List Nd) (k : Int) (b : Nat) : (kidsTo t k b).length ≤ b := by
  unfold kidsTo
  refine Nat.le_trans (List.length_filter_le _ _) ?_
  rw [List.length_range']
  omega
set_option maxHeartbeats 4000000 in
set_option maxRecDepth 100000 in
theorem children_any (w : World) (b off c : Nat) (t : List Nd) (hN : NodesIn w b off t) (O : Ords t) (hl : t.length ≤ 16384) (k : Nat) (hk : k < t.length) :
    Calls Tryd.prog 35 #[.slice (some ⟨b, off, none⟩) t.length c, .int .i64 (k : Int)] w fun e w' => (∃ v, e = .returned v ∧ Ints w w' v (kidsL t k)) ∧ Fr [] w w' := by
  have HN := Hid.mk hN
  have HK := Hid.mk (kidsTo_all O hk)
  have hl' : (t.length : Int) ≤ 16384 := by omega
  have hk0 : (0 : Int) ≤ (k : Int) := by omega
  have hk1 : (k : Int) < (t.length : Int) := by omega
  clear hN O
  go_enter Tryd.func35, Tryd.ntmps35
  go_wp2_with go_in
  go_loopw [5, 6] (fun s5 s6 wr => ∃ i : Nat, s6 = .int .i64 (i : Int) ∧ k < i ∧ i ≤ t.length ∧ Hid (Ints w wr s5 (kidsTo t k i)) ∧ Hid (Fr [] w wr)) (fun _ s6 _ => t.length - (RowKit.intOf s6).toNat)
  case atStart => exact ⟨k + 1, by go_num, by omega, by omega, (by show Ints _ _ _ (kidsTo t k (k + 1)); unfold kidsTo; rw [show ((k : Int) + 1).toNat = k + 1 by omega, Nat.sub_self]; exact Ints.nil _ _), Fr.refl _ _⟩
  case round =>
    obtain ⟨i, rfl, hki, hit, hI, hF⟩ := hrel
    have hi0 : (0 : Int) ≤ (i : Int) := by omega
    obtain ⟨adv, capv, rfl, _⟩ := hI.out.shape
    have hlen := kidsTo_len' t k i
    generalize hLL : (kidsTo t (k : Int) i).length = LL at hlen
    by_cases hlt : i < t.length
    · have hlt' : (i : Int) < (t.length : Int) := by omega
      obtain ⟨c0, c1, c2, c3⟩ := (HN.out.kept hF.out (by simp)) i hlt
      have hst := kids_step (t := t) (k := (k : Int)) (b := i) (by omega)
      have HLL := Hid.mk hLL
      clear hLL c1 c2
      by_cases hp : par t i = (k : Int)
      · have hpb : (par t i == (k : Int)) = true := by rw [beq_iff_eq]; exact hp
        by_cases h3 : knd t i = 3
        · have h3b : ((((knd t i : Nat)) : Int) != 3) = false := by rw [h3]; rfl
          rw [if_neg (fun h => h.2 h3)] at hst
          have HS := Hid.mk hst
          generalize par t i = p at c3 hpb
          generalize knd t i = K at c0 h3b
          clear hst hp h3
          go_wp2_with fail
          exact ⟨⟨i + 1, by go_num, by omega, by omega, by show Ints _ _ _ (kidsTo t k (i + 1)); rw [HS.out]; have h5 := hI.out; rw [HLL.out] at h5; exact h5, hF⟩, by simp [RowKit.intOf]; omega⟩
        · have h3b : ((((knd t i : Nat)) : Int) != 3) = true := by rw [bne_iff_ne]; omega
          rw [if_pos ⟨hp, h3⟩] at hst
          have HS := Hid.mk hst
          generalize par t i = p at c3 hpb
          generalize knd t i = K at c0 h3b
          have hIo := Hid.mk (show Ints w wr (.slice adv LL capv) (kidsTo t k i) from by have h5 := hI.out; rw [HLL.out] at h5; exact h5)
          have hm := Hid.mk (show (kidsTo t (k : Int) i).length + 1 ≤ 16777216 from by rw [HLL.out]; omega)
          clear hst hp h3
          go_wp2_with (first
            | (refine wp_appI rfl _ _ rfl w _ _ rfl (hIo.out.kept0 ((Fr.refl _ _).alloc _)) (hF.out.alloc _).size wr.heap.size 1 i rfl (cell_new1 _ _ _) hm.out ?_ (hF.out.alloc _); intro v' w' hI' f0' f')
            | go_in)
          exact ⟨⟨i + 1, by go_num, by omega, by omega, by show Ints _ _ _ (kidsTo t k (i + 1)); rw [HS.out]; exact hI', f'⟩, by simp [RowKit.intOf]; omega⟩
      · have hpb : (par t i == (k : Int)) = false := by rw [beq_eq_false_iff_ne]; exact hp
        rw [if_neg (fun h => hp h.1)] at hst
        have HS := Hid.mk hst
        generalize par t i = p at c3 hpb
        clear hst hp c0
        go_wp2_with fail
        exact ⟨⟨i + 1, by go_num, by omega, by omega, by show Ints _ _ _ (kidsTo t k (i + 1)); rw [HS.out]; have h5 := hI.out; rw [HLL.out] at h5; exact h5, hF⟩, by simp [RowKit.intOf]; omega⟩
    · obtain rfl : i = t.length := by omega
      have hlt' : ¬ (t.length : Int) < (t.length : Int) := by omega
      have HLL := Hid.mk hLL
      clear hLL
      go_wp2_with fail
      go_ret
      exact ⟨⟨_, rfl, by rw [← HK.out]; have h5 := hI.out; rw [HLL.out] at h5; exact h5⟩, hF.out⟩
end Go.Proofs.YtjdcfaaoicnajaaDoor

namespace Go.Proofs.YtjdcfaaoicnajaaDoor
open Go.RowKit Go.Maps Go.Lib

theorem mk_app (s t : List UInt8) : mkS s ++ mkS t = mkS (s ++ t) := by
  apply ByteArray.ext
  simp [mkS]
theorem app_mk (A B : ByteArray) : A ++ B = mkS (bl A ++ bl B) := by rw [← mk_app, mkS_bl, mkS_bl]
theorem bl_app (A B : ByteArray) : bl (A ++ B) = bl A ++ bl B := by rw [app_mk, bl_mkS]
theorem eq_of_bl {X Y : ByteArray} (h : bl X = bl Y) : X = Y := by rw [← mkS_bl X, h, mkS_bl]
theorem ret_str {X Y : ByteArray} (h : bl X = bl Y) : Ending.returned (.string X) = .returned (.string Y) := by rw [eq_of_bl h]
theorem fr_box {w wa wb : World} {g : Nat} (hg : w.heap.size ≤ g) (fa : Fr [] w wa) (fb : Fr [g] wa wb) : Fr [] w wb := by
  have f1 : Fr [g] w wb := (fa.mono (by simp)).trans fb
  exact ⟨f1.os, f1.tape, f1.output, f1.size, fun k hk _ => f1.block k hk (by simp; omega)⟩
def RefWC (t : List Nd) (b0 off c n : Nat) : Prop := ∀ (w : World) (x : Nat), NodesIn w b0 off t → x < t.length → t.length - x ≤ n →
  Calls Tryd.prog 24 #[.slice (some ⟨b0, off, none⟩) t.length c, .int .i64 (x : Int)] w fun e w' => e = .returned (.string (mkS (outN t n x))) ∧ Fr [] w w'
theorem kid_mem {t : List Nd} {k y : Nat} (h : y ∈ kidsL t k) : k < y ∧ y < endOf t k := by
  unfold kidsL at h
  rw [mem_kidsTo] at h
  omega
section
variable {t : List Nd} {b0 off c n : Nat}
set_option maxHeartbeats 16000000 in
set_option maxRecDepth 100000 in
theorem rleaf_step (G : Good t) (w : World) (x : Nat) (hN : NodesIn w b0 off t) (hx : x < t.length) (h1 : knd t x ≠ 1) (h2 : knd t x ≠ 2) :
    Calls Tryd.prog 24 #[.slice (some ⟨b0, off, none⟩) t.length c, .int .i64 (x : Int)] w fun e w' => e = .returned (.string (mkS (leafO (knd t x) (nam t x) (vlu t x)))) ∧ Fr [] w w' := by
  obtain ⟨c0, c1, c2, c3⟩ := hN x hx
  have hx0 : (0 : Int) ≤ (x : Int) := by omega
  have hxl : (x : Int) < (t.length : Int) := by omega
  have hv : (vlu t x).size ≤ 65536 := (G x hx).2.1.2
  have hnm : (nam t x).size ≤ 100 := good_name G hx
  have hkk : knd t x = 3 ∨ knd t x = 4 ∨ knd t x = 5 ∨ knd t x = 6 := by
    rcases (G x hx).2.2 with f | f | f | f | f | f
    · exact absurd f.1 h1
    · exact absurd f.1 h2
    · exact Or.inl f.1
    · exact Or.inr (Or.inl f.1)
    · exact Or.inr (Or.inr (Or.inl f.1))
    · exact Or.inr (Or.inr (Or.inr f.1))
  clear h1 h2 hN
  generalize nam t x = NM at c1 hnm ⊢
  generalize vlu t x = VL at c2 hv ⊢
  generalize par t x = p at c3
  rcases hkk with hk | hk | hk | hk
  · rw [hk] at c0 ⊢
    have e3 := Hid.mk (show leafO 3 NM VL = bl NM ++ [61] ++ quoV VL from rfl)
    have cQ := Hid.mk (fun w' => refQuote_any w' VL (by omega))
    have hq := quoV_len VL
    have hqs : (mkS (quoV VL)).size ≤ 400000 := by rw [mkS_size]; omega
    have HX := Hid.mk (show bl (mkS (leafO 3 NM VL)) = bl (NM ++ ⟨#[61]⟩ ++ mkS (quoV VL)) from by rw [e3.out, bl_mkS, bl_app, bl_app, bl_mkS]; rfl)
    generalize mkS (leafO 3 NM VL) = RR at HX
    generalize mkS (quoV VL) = QQ at cQ hqs HX
    have d1 : ¬ 9223372036854775807 < NM.size + 1 := by omega
    have d2 : ¬ 9223372036854775807 < NM.size + 1 + QQ.size := by omega
    have d3 : ¬ 9223372036854775807 < (NM ++ ⟨#[61]⟩).size + QQ.size := by rw [ByteArray.size_append]; show ¬ _ < NM.size + 1 + _; omega
    clear hk hq hv e3 hqs
    go_enter Tryd.func24, Tryd.ntmps24
    go_wp2_with (first
      | (refine wp_alloc 37 rfl rfl _ zeroN _ rfl ?_; intro wa ga hga hca fa)
      | (refine wp_storeC 37 rfl _ _ rfl ga _ (ndC 3 NM VL p) rfl rfl hca infoN rfl (ndC_one _ _ _ _) ?_; intro wb hcb fb; have FB := Hid.mk (fr_box hga fa fb); have HCB := Hid.mk hcb; have n0 : wb.cell? ⟨ga, 0, none⟩ = some (.int .u8 3) := hcb.cell 0; have n1 : wb.cell? ⟨ga, 1, none⟩ = some (.string NM) := hcb.cell 1; have n2 : wb.cell? ⟨ga, 2, none⟩ = some (.string VL) := hcb.cell 2; clear hca fa fb c0 c1 c2 c3 hcb))
    have SK := Hid.mk (show ∀ w', Fr [] wb w' → w'.cell? ⟨ga, 1, none⟩ = some (.string NM) ∧ w'.cell? ⟨ga, 2, none⟩ = some (.string VL) from fun w' f => ⟨(HCB.out.kept f (by simp)).cell 1, (HCB.out.kept f (by simp)).cell 2⟩)
    have gg : Fr [] wb wb.drew := (Fr.refl _ _).drew
    go_region_held3 (fun w' => w'.cell? ⟨ga, 1, none⟩ = some (.string NM) ∧ w'.cell? ⟨ga, 2, none⟩ = some (.string VL)) (exact SK.out _ gg)
      ((go_at_call 17; refine (cQ.out _).mono ?_; rintro e w7 ⟨rfl, f7⟩; replace gg := gg.trans f7))
    all_goals go_wp2
    all_goals go_ret
    all_goals exact ⟨ret_str HX.out.symm, FB.out.trans gg⟩
  · rw [hk] at c0 ⊢
    have e3 := Hid.mk (show leafO 4 NM VL = escT VL from rfl)
    have cQ := Hid.mk (fun w' => refEscape_any w' VL (by omega))
    rw [← e3.out] at cQ
    generalize mkS (leafO 4 NM VL) = RR at cQ
    clear hk e3
    go_enter Tryd.func24, Tryd.ntmps24
    go_wp2_with (first
      | (refine wp_alloc 37 rfl rfl _ zeroN _ rfl ?_; intro wa ga hga hca fa)
      | (refine wp_storeC 37 rfl _ _ rfl ga _ (ndC 4 NM VL p) rfl rfl hca infoN rfl (ndC_one _ _ _ _) ?_; intro wb hcb fb; have FB := Hid.mk (fr_box hga fa fb); have HCB := Hid.mk hcb; have n0 : wb.cell? ⟨ga, 0, none⟩ = some (.int .u8 4) := hcb.cell 0; have n1 : wb.cell? ⟨ga, 1, none⟩ = some (.string NM) := hcb.cell 1; have n2 : wb.cell? ⟨ga, 2, none⟩ = some (.string VL) := hcb.cell 2; clear hca fa fb c0 c1 c2 c3 hcb)
      | (go_at_call 15; refine (cQ.out _).mono ?_; rintro e w7 ⟨rfl, f7⟩))
    go_ret
    exact ⟨rfl, FB.out.trans f7⟩
  · rw [hk] at c0 ⊢
    have HX := Hid.mk (show bl (mkS (leafO 5 NM VL)) = bl (⟨#[60, 33, 45, 45]⟩ ++ VL ++ ⟨#[45, 45, 62]⟩) from by rw [bl_mkS, bl_app, bl_app]; rfl)
    generalize mkS (leafO 5 NM VL) = RR at HX
    have d1 : ¬ 9223372036854775807 < 4 + VL.size := by omega
    have d2 : ¬ 9223372036854775807 < 4 + VL.size + 3 := by omega
    have d3 : ¬ 9223372036854775807 < (⟨#[60, 33, 45, 45]⟩ ++ VL).size + 3 := by rw [ByteArray.size_append]; exact d2
    clear hk
    go_enter Tryd.func24, Tryd.ntmps24
    go_wp2_with (first
      | (refine wp_alloc 37 rfl rfl _ zeroN _ rfl ?_; intro wa ga hga hca fa)
      | (refine wp_storeC 37 rfl _ _ rfl ga _ (ndC 5 NM VL p) rfl rfl hca infoN rfl (ndC_one _ _ _ _) ?_; intro wb hcb fb; have FB := Hid.mk (fr_box hga fa fb); have HCB := Hid.mk hcb; have n0 : wb.cell? ⟨ga, 0, none⟩ = some (.int .u8 5) := hcb.cell 0; have n1 : wb.cell? ⟨ga, 1, none⟩ = some (.string NM) := hcb.cell 1; have n2 : wb.cell? ⟨ga, 2, none⟩ = some (.string VL) := hcb.cell 2; clear hca fa fb c0 c1 c2 c3 hcb))
    go_ret
    exact ⟨ret_str HX.out.symm, FB.out⟩
  · rw [hk] at c0 ⊢
    cases hem : VL.toList.isEmpty with
    | true =>
      have HX := Hid.mk (show bl (mkS (leafO 6 NM VL)) = bl (⟨#[60, 63]⟩ ++ NM ++ ⟨#[63, 62]⟩) from by rw [bl_mkS, bl_app, bl_app]; show [60, 63] ++ bl NM ++ (if VL.toList.isEmpty then [] else [32] ++ bl VL) ++ [63, 62] = _; rw [hem, if_pos rfl, List.append_nil]; rfl)
      generalize mkS (leafO 6 NM VL) = RR at HX
      have d1 : ¬ 9223372036854775807 < 2 + NM.size := by omega
      have d2 : ¬ 9223372036854775807 < 2 + NM.size + 2 := by omega
      have d3 : ¬ 9223372036854775807 < (⟨#[60, 63]⟩ ++ NM).size + 2 := by rw [ByteArray.size_append]; exact d2
      clear hk
      go_enter Tryd.func24, Tryd.ntmps24
      go_wp2_with (first
        | (refine wp_alloc 37 rfl rfl _ zeroN _ rfl ?_; intro wa ga hga hca fa)
        | (refine wp_storeC 37 rfl _ _ rfl ga _ (ndC 6 NM VL p) rfl rfl hca infoN rfl (ndC_one _ _ _ _) ?_; intro wb hcb fb; have FB := Hid.mk (fr_box hga fa fb); have HCB := Hid.mk hcb; have n0 : wb.cell? ⟨ga, 0, none⟩ = some (.int .u8 6) := hcb.cell 0; have n1 : wb.cell? ⟨ga, 1, none⟩ = some (.string NM) := hcb.cell 1; have n2 : wb.cell? ⟨ga, 2, none⟩ = some (.string VL) := hcb.cell 2; clear hca fa fb c0 c1 c2 c3 hcb))
      go_ret
      exact ⟨ret_str HX.out.symm, FB.out⟩
    | false =>
      have HX := Hid.mk (show bl (mkS (leafO 6 NM VL)) = bl (⟨#[60, 63]⟩ ++ NM ++ ⟨#[32]⟩ ++ VL ++ ⟨#[63, 62]⟩) from by rw [bl_mkS, bl_app, bl_app, bl_app, bl_app]; show [60, 63] ++ bl NM ++ (if VL.toList.isEmpty then [] else [32] ++ bl VL) ++ [63, 62] = _; rw [hem, if_neg (by decide)]; simp only [List.append_assoc]; rfl)
      generalize mkS (leafO 6 NM VL) = RR at HX
      have d1 : ¬ 9223372036854775807 < 2 + NM.size := by omega
      have d2 : ¬ 9223372036854775807 < 2 + NM.size + 1 := by omega
      have d4 : ¬ 9223372036854775807 < 2 + NM.size + 1 + VL.size := by omega
      have d5 : ¬ 9223372036854775807 < 2 + NM.size + 1 + VL.size + 2 := by omega
      clear hk
      go_enter Tryd.func24, Tryd.ntmps24
      go_wp2_with (first
        | (refine wp_alloc 37 rfl rfl _ zeroN _ rfl ?_; intro wa ga hga hca fa)
        | (refine wp_storeC 37 rfl _ _ rfl ga _ (ndC 6 NM VL p) rfl rfl hca infoN rfl (ndC_one _ _ _ _) ?_; intro wb hcb fb; have FB := Hid.mk (fr_box hga fa fb); have HCB := Hid.mk hcb; have n0 : wb.cell? ⟨ga, 0, none⟩ = some (.int .u8 6) := hcb.cell 0; have n1 : wb.cell? ⟨ga, 1, none⟩ = some (.string NM) := hcb.cell 1; have n2 : wb.cell? ⟨ga, 2, none⟩ = some (.string VL) := hcb.cell 2; clear hca fa fb c0 c1 c2 c3 hcb))
      go_ret
      exact ⟨ret_str HX.out.symm, FB.out⟩
end
end Go.Proofs.YtjdcfaaoicnajaaDoor

namespace Go.Proofs.YtjdcfaaoicnajaaDoor
open Go.RowKit Go.Maps Go.Lib

theorem flat_take (f : Nat → List UInt8) (L : List Nat) (j y : Nat) (h : L[j]? = some y) : ((L.take (j + 1)).map f).flatten = ((L.take j).map f).flatten ++ f y := by
  have hj : j < L.length := (List.getElem?_eq_some_iff.1 h).1
  have e : L[j] = y := (List.getElem?_eq_some_iff.1 h).2
  rw [List.take_succ_eq_append_getElem hj, e]
  simp
theorem flat_take_le (f : Nat → List UInt8) (L : List Nat) (j : Nat) : (((L.take j).map f).flatten).length ≤ ((L.map f).flatten).length := by
  have : (L.map f).flatten = ((L.take j).map f).flatten ++ ((L.drop j).map f).flatten := by rw [← List.flatten_append, ← List.map_append, List.take_append_drop]
  rw [this, List.length_append]
  omega
theorem Ints.cellAt {w0 w : World} {ad : Option Addr} {n cap : Nat} {l : List Nat} (h : Ints w0 w (.slice ad n cap) l) {i y : Nat} (hy : l[i]? = some y) : ∃ g, ad = some ⟨g, 0, none⟩ ∧ w.cell? ⟨g, i, none⟩ = some (.int .i64 (y : Int)) := by
  rcases h.2 with ⟨e, hn⟩ | ⟨g, cap', cur, e, hb, hg, hnc, _, hcs, ht⟩
  · have : l = [] := List.eq_nil_of_length_eq_zero hn
    rw [this] at hy
    cases hy
  · cases e
    refine ⟨g, rfl, ?_⟩
    have hi : i < l.length := (List.getElem?_eq_some_iff.1 hy).1
    rw [cell_of_row w g i _ _ _ hg]
    have : (l.map encI)[i]? = some (.int .i64 (y : Int)) := by simp [hy]
    rw [← this, ← ht, List.getElem?_take, if_pos (by omega)]
    simp
section
variable {t : List Nd} {b0 off c n : Nat}
set_option maxHeartbeats 16000000 in
set_option maxRecDepth 100000 in
theorem rinner1 (G : Good t) (hl : t.length ≤ 16384) (IH : RefWC t b0 off c n) (w : World) (x : Nat) (hN : NodesIn w b0 off t) (hx : x < t.length) (hn : t.length - x ≤ n + 1) (hk : knd t x = 1) :
    Calls Tryd.prog 24 #[.slice (some ⟨b0, off, none⟩) t.length c, .int .i64 (x : Int)] w fun e w' => e = .returned (.string (mkS (outN t (n + 1) x))) ∧ Fr [] w w' := by
  obtain ⟨c0, c1, c2, c3⟩ := hN x hx
  have hx0 : (0 : Int) ≤ (x : Int) := by omega
  have hxl : (x : Int) < (t.length : Int) := by omega
  have hl' : (t.length : Int) ≤ 16384 := by omega
  have hnm : (nam t x).size ≤ 100 := good_name G hx
  have hEl := (endOf_is (t := t) (k := (x : Int)) (by omega) (by omega)).le
  have HOL := Hid.mk (show (outN t (n + 1) x).length ≤ 16384 * 500000 from Nat.le_trans (out_len G (n + 1) x hx hn) (Nat.mul_le_mul_right _ (by omega)))
  have HEO := Hid.mk (outN_root G (n := n) hx hk)
  have cC := Hid.mk (fun w' (f : Fr [] w w') => children_any w' b0 off c t (hN.kept f (by simp)) G.ords hl x hx)
  have HI := Hid.mk IH
  have HN := Hid.mk hN
  have HNN := Hid.mk hn
  have HME := Hid.mk (fun y (h : y ∈ kidsL t x) => kid_mem h)
  have HG := Hid.mk G
  have hfl := Hid.mk (show (((kidsL t x).map (outN t n)).flatten).length ≤ 16384 * 500000 from by
    have h1 := HOL.out
    rw [HEO.out] at h1
    exact h1)
  have hkl : (kidsL t x).length ≤ 16384 := Nat.le_trans (kidsTo_len' t x (endOf t x)) (by omega)
  rw [hk] at c0
  generalize kidsL t x = KL at HEO cC HME hfl hkl
  generalize nam t x = NM at c1 hnm HEO
  generalize vlu t x = VL at c2
  generalize par t x = p at c3
  clear hN G IH hn hk
  go_enter Tryd.func24, Tryd.ntmps24
  go_wp2_with (first
    | (refine wp_alloc 37 rfl rfl _ zeroN _ rfl ?_; intro wa ga hga hca fa)
    | (refine wp_storeC 37 rfl _ _ rfl ga _ (ndC 1 NM VL p) rfl rfl hca infoN rfl (ndC_one _ _ _ _) ?_; intro wb hcb fb; have FB := Hid.mk (fr_box hga fa fb); have HCB := Hid.mk hcb; have n0 : wb.cell? ⟨ga, 0, none⟩ = some (.int .u8 1) := hcb.cell 0; have n1 : wb.cell? ⟨ga, 1, none⟩ = some (.string NM) := hcb.cell 1; have n2 : wb.cell? ⟨ga, 2, none⟩ = some (.string VL) := hcb.cell 2; clear hca fa fb c0 c1 c2 c3 hcb)
    | (go_at_call 35; refine (cC.out _ FB.out).mono ?_; rintro e w6 ⟨⟨v6, rfl, hv6⟩, f6⟩)
    | go_in)
  have V6 := Hid.mk hv6
  have F6 := Hid.mk (FB.out.trans f6)
  have HC6 := Hid.mk (HCB.out.kept f6 (by simp))
  obtain ⟨av, cv, rfl, _⟩ := hv6.shape
  obtain ⟨NL, hNL⟩ : ∃ NL, KL.length = NL := ⟨_, rfl⟩
  rw [hNL] at V6 hkl ⊢
  have HNL := Hid.mk hNL
  have hNLi : (NL : Int) ≤ 16384 := by omega
  clear hv6 f6 hNL n0 n1 n2
  go_loopw [6, 8] (fun s6 s8 wr => ∃ j : Nat, s8 = .int .i64 (j : Int) ∧ j ≤ NL ∧ s6 = .string (mkS (((KL.take j).map (outN t n)).flatten)) ∧ Hid (Fr [] w6 wr)) (fun _ s8 _ => NL - (RowKit.intOf s8).toNat)
  case atStart => exact ⟨0, rfl, by omega, rfl, Fr.refl _ _⟩
  case round =>
    obtain ⟨j, rfl, hj, rfl, hF6⟩ := hrel
    have hj0 : (0 : Int) ≤ (j : Int) := by omega
    by_cases hlt : j < NL
    · have hlt' : (j : Int) < (NL : Int) := by omega
      have hjl : j < KL.length := by rw [HNL.out]; exact hlt
      obtain ⟨y, hy⟩ : ∃ y, KL[j]? = some y := ⟨KL[j], List.getElem?_eq_getElem hjl⟩
      obtain ⟨g7, rfl, hc7⟩ := (V6.out.kept0 hF6.out).cellAt hy
      obtain ⟨q1, q2⟩ := HME.out y (List.mem_of_getElem? hy)
      have cY := Hid.mk (HI.out wr y (HN.out.kept (F6.out.trans hF6.out) (by simp)) (by omega) (by have := HNN.out; omega))
      have hft := flat_take (outN t n) KL j y hy
      have hle := flat_take_le (outN t n) KL (j + 1)
      rw [hft, List.length_append] at hle
      have hfl' := hfl.out
      have d1 : ¬ 9223372036854775807 < (mkS (((KL.take j).map (outN t n)).flatten)).size + (mkS (outN t n y)).size := by rw [mkS_size, mkS_size]; omega
      have HFT := Hid.mk (show mkS (((KL.take (j + 1)).map (outN t n)).flatten) = mkS (((KL.take j).map (outN t n)).flatten) ++ mkS (outN t n y) from by rw [hft, mk_app])
      generalize mkS (((KL.take j).map (outN t n)).flatten) = A at d1 HFT
      generalize mkS (outN t n y) = B at d1 HFT cY
      clear hft hle hfl' hy hjl q1 q2
      go_wp2_with (first
        | (go_at_call 24; refine cY.out.mono ?_; rintro e w8 ⟨rfl, f8⟩))
      exact ⟨⟨j + 1, by go_num, by omega, by rw [HFT.out], hF6.out.trans f8⟩, by simp [RowKit.intOf]; omega⟩
    · obtain rfl : j = NL := by omega
      have hlt' : ¬ (j : Int) < (j : Int) := by omega
      have hF := Hid.mk (F6.out.trans hF6.out)
      have hall : KL.take j = KL := List.take_of_length_le (by rw [HNL.out]; exact Nat.le_refl _)
      rw [hall]
      have n0 : wr.cell? ⟨ga, 0, none⟩ = some (.int .u8 1) := (HC6.out.kept hF6.out (by simp)).cell 0
      have n1 : wr.cell? ⟨ga, 1, none⟩ = some (.string NM) := (HC6.out.kept hF6.out (by simp)).cell 1
      have HCr := Hid.mk (HC6.out.kept hF6.out (by simp))
      have hIn := Hid.mk (show (mkS ((KL.map (outN t n)).flatten)).size ≤ 16384 * 500000 from by rw [mkS_size]; exact hfl.out)
      clear hall
      go_wp2_with fail
      go_ret
      exact ⟨by rw [HEO.out]; rfl, hF.out⟩
set_option maxHeartbeats 16000000 in
set_option maxRecDepth 100000 in
theorem rinner2 (G : Good t) (hl : t.length ≤ 16384) (IH : RefWC t b0 off c n) (w : World) (x : Nat) (hN : NodesIn w b0 off t) (hx : x < t.length) (hn : t.length - x ≤ n + 1) (hk : knd t x = 2) :
    Calls Tryd.prog 24 #[.slice (some ⟨b0, off, none⟩) t.length c, .int .i64 (x : Int)] w fun e w' => e = .returned (.string (mkS (outN t (n + 1) x))) ∧ Fr [] w w' := by
  obtain ⟨c0, c1, c2, c3⟩ := hN x hx
  have hx0 : (0 : Int) ≤ (x : Int) := by omega
  have hxl : (x : Int) < (t.length : Int) := by omega
  have hl' : (t.length : Int) ≤ 16384 := by omega
  have hnm : (nam t x).size ≤ 100 := good_name G hx
  have hEl := (endOf_is (t := t) (k := (x : Int)) (by omega) (by omega)).le
  have HOL := Hid.mk (show (outN t (n + 1) x).length ≤ 16384 * 500000 from Nat.le_trans (out_len G (n + 1) x hx hn) (Nat.mul_le_mul_right _ (by omega)))
  have HEO := Hid.mk (outN_elem G (n := n) hx hk)
  have cC := Hid.mk (fun w' (f : Fr [] w w') => children_any w' b0 off c t (hN.kept f (by simp)) G.ords hl x hx)
  have HI := Hid.mk IH
  have HN := Hid.mk hN
  have HNN := Hid.mk hn
  have HME := Hid.mk (fun y (h : y ∈ kidsL t x) => kid_mem h)
  have HG := Hid.mk G
  have hfl := Hid.mk (show (((kidsL t x).map (outN t n)).flatten).length ≤ 16384 * 500000 from by
    have h1 := HOL.out
    rw [HEO.out] at h1
    split at h1
    · rename_i h5
      rw [List.eq_nil_of_length_eq_zero h5]
      simp
    · simp only [List.length_append, List.length_cons, List.length_nil] at h1
      omega)
  have hkl : (kidsL t x).length ≤ 16384 := Nat.le_trans (kidsTo_len' t x (endOf t x)) (by omega)
  have HAtt := Hid.mk (attE_is hx)
  have hAg := (attE_is hx).gt
  have hAl := (attE_is hx).le
  have HAO := Hid.mk (show (attO t (x + 1) (attE t x)).length ≤ 16384 * 500000 from by
    have h1 := HOL.out
    rw [HEO.out] at h1
    simp only [List.length_append] at h1
    omega)
  generalize hQ : attE t x = Q at HEO HAtt hAg hAl HAO
  rw [hk] at c0
  generalize kidsL t x = KL at HEO cC HME hfl hkl
  generalize nam t x = NM at c1 hnm HEO
  generalize vlu t x = VL at c2
  generalize par t x = p at c3
  clear hN G IH hn hk hQ
  go_enter Tryd.func24, Tryd.ntmps24
  go_wp2_with (first
    | (refine wp_alloc 37 rfl rfl _ zeroN _ rfl ?_; intro wa ga hga hca fa)
    | (refine wp_storeC 37 rfl _ _ rfl ga _ (ndC 2 NM VL p) rfl rfl hca infoN rfl (ndC_one _ _ _ _) ?_; intro wb hcb fb; have FB := Hid.mk (fr_box hga fa fb); have HCB := Hid.mk hcb; have n0 : wb.cell? ⟨ga, 0, none⟩ = some (.int .u8 2) := hcb.cell 0; have n1 : wb.cell? ⟨ga, 1, none⟩ = some (.string NM) := hcb.cell 1; have n2 : wb.cell? ⟨ga, 2, none⟩ = some (.string VL) := hcb.cell 2; clear hca fa fb c0 c1 c2 c3 hcb)
    | (go_at_call 35; refine (cC.out _ FB.out).mono ?_; rintro e w6 ⟨⟨v6, rfl, hv6⟩, f6⟩)
    | go_in)
  have V6 := Hid.mk hv6
  have F6 := Hid.mk (FB.out.trans f6)
  have HC6 := Hid.mk (HCB.out.kept f6 (by simp))
  obtain ⟨av, cv, rfl, _⟩ := hv6.shape
  obtain ⟨NL, hNL⟩ : ∃ NL, KL.length = NL := ⟨_, rfl⟩
  rw [hNL] at V6 hkl ⊢
  have HNL := Hid.mk hNL
  have hNLi : (NL : Int) ≤ 16384 := by omega
  clear hv6 f6 hNL n0 n1 n2
  go_loopw [6, 8] (fun s6 s8 wr => ∃ j : Nat, s8 = .int .i64 (j : Int) ∧ j ≤ NL ∧ s6 = .string (mkS (((KL.take j).map (outN t n)).flatten)) ∧ Hid (Fr [] w6 wr)) (fun _ s8 _ => NL - (RowKit.intOf s8).toNat)
  case atStart => exact ⟨0, rfl, by omega, rfl, Fr.refl _ _⟩
  case round =>
    obtain ⟨j, rfl, hj, rfl, hF6⟩ := hrel
    have hj0 : (0 : Int) ≤ (j : Int) := by omega
    by_cases hlt : j < NL
    · have hlt' : (j : Int) < (NL : Int) := by omega
      have hjl : j < KL.length := by rw [HNL.out]; exact hlt
      obtain ⟨y, hy⟩ : ∃ y, KL[j]? = some y := ⟨KL[j], List.getElem?_eq_getElem hjl⟩
      obtain ⟨g7, rfl, hc7⟩ := (V6.out.kept0 hF6.out).cellAt hy
      obtain ⟨q1, q2⟩ := HME.out y (List.mem_of_getElem? hy)
      have cY := Hid.mk (HI.out wr y (HN.out.kept (F6.out.trans hF6.out) (by simp)) (by omega) (by have := HNN.out; omega))
      have hft := flat_take (outN t n) KL j y hy
      have hle := flat_take_le (outN t n) KL (j + 1)
      rw [hft, List.length_append] at hle
      have hfl' := hfl.out
      have d1 : ¬ 9223372036854775807 < (mkS (((KL.take j).map (outN t n)).flatten)).size + (mkS (outN t n y)).size := by rw [mkS_size, mkS_size]; omega
      have HFT := Hid.mk (show mkS (((KL.take (j + 1)).map (outN t n)).flatten) = mkS (((KL.take j).map (outN t n)).flatten) ++ mkS (outN t n y) from by rw [hft, mk_app])
      generalize mkS (((KL.take j).map (outN t n)).flatten) = A at d1 HFT
      generalize mkS (outN t n y) = B at d1 HFT cY
      clear hft hle hfl' hy hjl q1 q2
      go_wp2_with (first
        | (go_at_call 24; refine cY.out.mono ?_; rintro e w8 ⟨rfl, f8⟩))
      exact ⟨⟨j + 1, by go_num, by omega, by rw [HFT.out], hF6.out.trans f8⟩, by simp [RowKit.intOf]; omega⟩
    · obtain rfl : j = NL := by omega
      have hlt' : ¬ (j : Int) < (j : Int) := by omega
      have hF := Hid.mk (F6.out.trans hF6.out)
      have hall : KL.take j = KL := List.take_of_length_le (by rw [HNL.out]; exact Nat.le_refl _)
      rw [hall]
      have n0 : wr.cell? ⟨ga, 0, none⟩ = some (.int .u8 2) := (HC6.out.kept hF6.out (by simp)).cell 0
      have n1 : wr.cell? ⟨ga, 1, none⟩ = some (.string NM) := (HC6.out.kept hF6.out (by simp)).cell 1
      have HCr := Hid.mk (HC6.out.kept hF6.out (by simp))
      have hIn := Hid.mk (show (mkS ((KL.map (outN t n)).flatten)).size ≤ 16384 * 500000 from by rw [mkS_size]; exact hfl.out)
      clear hall
      have hEO2 := Hid.mk (show bl (mkS (outN t (n + 1) x)) = [60] ++ bl NM ++ attO t (x + 1) Q ++ (if KL.length = 0 then [47, 62] else [62] ++ bl (mkS ((KL.map (outN t n)).flatten)) ++ ([60, 47] ++ bl NM ++ [62])) from by rw [bl_mkS, bl_mkS]; exact HEO.out)
      generalize mkS ((KL.map (outN t n)).flatten) = INS at hIn hEO2
      have d1 : ¬ 9223372036854775807 < 1 + NM.size := by omega
      obtain ⟨wo, hwo⟩ : ∃ wo, wo = wr := ⟨_, rfl⟩
      rw [← hwo] at hF6 hF HCr n0 n1 ⊢
      clear hwo
      go_wp2_with fail
      go_loopw [9, 10] (fun s9 s10 wq => ∃ i : Nat, s10 = .int .i64 (i : Int) ∧ x < i ∧ i ≤ Q ∧ s9 = .string (mkS ([60] ++ bl NM ++ attO t (x + 1) i)) ∧ Hid (Fr [] wo wq)) (fun _ s10 _ => t.length - (RowKit.intOf s10).toNat)
      case atStart => exact ⟨x + 1, by go_num, by omega, by omega, by rw [attO_nil, List.append_nil, app_mk]; rfl, Fr.refl _ _⟩
      case round =>
        obtain ⟨i, rfl, hxi, hiQ, rfl, hFq⟩ := hrel
        have hi0 : (0 : Int) ≤ (i : Int) := by omega
        have hNq := HN.out.kept (hF.out.trans hFq.out) (by simp)
        by_cases hq : i < Q
        · obtain ⟨hp, h3⟩ := HAtt.out.all i hxi hq
          have hil : i < t.length := by omega
          have hil' : (i : Int) < (t.length : Int) := by omega
          obtain ⟨e0, e1, e2, e3⟩ := hNq i hil
          rw [h3] at e0
          rw [hp] at e3
          have cY := Hid.mk (HI.out _ i hNq hil (by have := HNN.out; omega))
          have hlf := outN_leaf (t := t) (n := n) (x := i) (by have := HNN.out; omega) (by omega) (by omega)
          have hst := attO_step (t := t) (a := x + 1) (b := i) (by omega)
          rw [← hlf] at hst
          have hle := attO_le (t := t) (a := x + 1) (b := i + 1) (c := Q) (by omega) (by omega)
          rw [hst] at hle
          simp only [List.length_append, List.length_cons, List.length_nil] at hle
          have hao := HAO.out
          have hsz : (mkS ([60] ++ bl NM ++ attO t (x + 1) i)).size = 1 + NM.size + (attO t (x + 1) i).length := by rw [mkS_size]; simp only [List.length_append, List.length_cons, List.length_nil, bl_length]
          have d2 : ¬ 9223372036854775807 < (mkS ([60] ++ bl NM ++ attO t (x + 1) i)).size + 1 := by omega
          have d3 : ¬ 9223372036854775807 < (mkS ([60] ++ bl NM ++ attO t (x + 1) i)).size + 1 + (mkS (outN t n i)).size := by rw [mkS_size (outN t n i)]; omega
          have HFT := Hid.mk (show mkS ([60] ++ bl NM ++ attO t (x + 1) (i + 1)) = mkS ([60] ++ bl NM ++ attO t (x + 1) i) ++ ⟨#[32]⟩ ++ mkS (outN t n i) from by rw [hst, show (ByteArray.mk #[32]) = mkS [32] from rfl, mk_app, mk_app]; simp only [List.append_assoc])
          generalize mkS ([60] ++ bl NM ++ attO t (x + 1) i) = A at d2 d3 HFT
          generalize mkS (outN t n i) = B at d3 HFT cY
          clear hst hlf hle hao hsz hp h3 e1 e2 hNq
          go_wp2_with (first
            | (go_at_call 24; refine cY.out.mono ?_; rintro e w8 ⟨rfl, f8⟩))
          exact ⟨⟨i + 1, by go_num, by omega, by omega, by rw [HFT.out], hFq.out.trans f8⟩, by simp [RowKit.intOf]; omega⟩
        · obtain rfl : i = Q := by omega
          have n1 : wr.cell? ⟨ga, 1, none⟩ = some (.string NM) := (HCr.out.kept hFq.out (by simp)).cell 1
          have hao := HAO.out
          have hin := hIn.out
          have hsz : (mkS ([60] ++ bl NM ++ attO t (x + 1) i)).size = 1 + NM.size + (attO t (x + 1) i).length := by rw [mkS_size]; simp only [List.length_append, List.length_cons, List.length_nil, bl_length]
          have hRE := Hid.mk (show KL.length = 0 → bl (mkS (outN t (n + 1) x)) = bl (mkS ([60] ++ bl NM ++ attO t (x + 1) i) ++ ⟨#[47, 62]⟩) from fun h0 => by rw [hEO2.out, if_pos h0, bl_app, bl_mkS]; rfl)
          have hRF := Hid.mk (show KL.length ≠ 0 → bl (mkS (outN t (n + 1) x)) = bl (mkS ([60] ++ bl NM ++ attO t (x + 1) i) ++ ⟨#[62]⟩ ++ INS ++ ⟨#[60, 47]⟩ ++ NM ++ ⟨#[62]⟩) from fun h0 => by rw [hEO2.out, if_neg h0, bl_app, bl_app, bl_app, bl_app, bl_app, bl_mkS]; simp only [List.append_assoc]; rfl)
          have d2 : ¬ 9223372036854775807 < (mkS ([60] ++ bl NM ++ attO t (x + 1) i)).size + 2 := by omega
          have d3 : ¬ 9223372036854775807 < (mkS ([60] ++ bl NM ++ attO t (x + 1) i)).size + 1 := by omega
          have d4 : ¬ 9223372036854775807 < (mkS ([60] ++ bl NM ++ attO t (x + 1) i)).size + 1 + INS.size := by omega
          have d5 : ¬ 9223372036854775807 < (mkS ([60] ++ bl NM ++ attO t (x + 1) i)).size + 1 + INS.size + 2 := by omega
          have d6 : ¬ 9223372036854775807 < (mkS ([60] ++ bl NM ++ attO t (x + 1) i)).size + 1 + INS.size + 2 + NM.size := by omega
          have d7 : ¬ 9223372036854775807 < (mkS ([60] ++ bl NM ++ attO t (x + 1) i)).size + 1 + INS.size + 2 + NM.size + 1 := by omega
          generalize mkS ([60] ++ bl NM ++ attO t (x + 1) i) = A at d2 d3 d4 d5 d6 d7 hRE hRF
          clear hao hin hsz
          have HSt := Hid.mk HAtt.out.stop
          by_cases hil : i < t.length
          · have hil' : (i : Int) < (t.length : Int) := by omega
            obtain ⟨e0, e1, e2, e3⟩ := hNq i hil
            have hst := HSt.out hil
            by_cases h3 : knd t i = 3
            · have hp : (par t i == (x : Int)) = false := by rw [beq_eq_false_iff_ne]; exact fun e => hst ⟨e, h3⟩
              rw [h3] at e0
              generalize par t i = pp at e3 hp
              clear hst h3 e1 e2 hNq
              by_cases hz : j = 0
              · have hzb : ((j : Int) == 0) = true := by rw [beq_iff_eq]; omega
                have HZ := Hid.mk (hRE.out (by rw [HNL.out]; exact hz))
                clear hz
                go_wp2_with fail
                go_ret
                exact ⟨ret_str HZ.out.symm, hF.out.trans hFq.out⟩
              · have hzb : ((j : Int) == 0) = false := by rw [beq_eq_false_iff_ne]; omega
                have HZ := Hid.mk (hRF.out (by rw [HNL.out]; exact hz))
                clear hz
                go_wp2_with fail
                go_ret
                exact ⟨ret_str HZ.out.symm, hF.out.trans hFq.out⟩
            · have h3b : ((((knd t i : Nat)) : Int) == 3) = false := by rw [beq_eq_false_iff_ne]; omega
              generalize knd t i = KK at e0 h3b
              clear hst h3 e1 e2 e3 hNq
              by_cases hz : j = 0
              · have hzb : ((j : Int) == 0) = true := by rw [beq_iff_eq]; omega
                have HZ := Hid.mk (hRE.out (by rw [HNL.out]; exact hz))
                clear hz
                go_wp2_with fail
                go_ret
                exact ⟨ret_str HZ.out.symm, hF.out.trans hFq.out⟩
              · have hzb : ((j : Int) == 0) = false := by rw [beq_eq_false_iff_ne]; omega
                have HZ := Hid.mk (hRF.out (by rw [HNL.out]; exact hz))
                clear hz
                go_wp2_with fail
                go_ret
                exact ⟨ret_str HZ.out.symm, hF.out.trans hFq.out⟩
          · have hil' : ¬ (i : Int) < (t.length : Int) := by omega
            clear hNq
            by_cases hz : j = 0
            · have hzb : ((j : Int) == 0) = true := by rw [beq_iff_eq]; omega
              have HZ := Hid.mk (hRE.out (by rw [HNL.out]; exact hz))
              clear hz
              go_wp2_with fail
              go_ret
              exact ⟨ret_str HZ.out.symm, hF.out.trans hFq.out⟩
            · have hzb : ((j : Int) == 0) = false := by rw [beq_eq_false_iff_ne]; omega
              have HZ := Hid.mk (hRF.out (by rw [HNL.out]; exact hz))
              clear hz
              go_wp2_with fail
              go_ret
              exact ⟨ret_str HZ.out.symm, hF.out.trans hFq.out⟩
end
end Go.Proofs.YtjdcfaaoicnajaaDoor

