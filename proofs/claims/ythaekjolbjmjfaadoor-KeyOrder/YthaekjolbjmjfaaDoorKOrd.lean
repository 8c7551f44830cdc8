/-
  KeyOrder: the walk.
-/
import Derived.Test.YthaekjolbjmjfaaDoorKReg
namespace Go.Proofs.YthaekjolbjmjfaaDoor
open Go.RowKit Go.Maps

set_option linter.unusedSimpArgs false in
set_option maxHeartbeats 4000000 in
set_option maxRecDepth 100000 in
theorem keyOrder_law (w : World) (L : LaidW w) (a1 a2 a3 a4 : Option Addr) (n1 n2 n3 n4 c1 c2 c3 c4 : Nat) (l1 l2 l3 l4 : List UInt8) (h1 : l1.length = n1) (h2 : l2.length = n2) (h3 : l3.length = n3) (h4 : l4.length = n4)
    (b1 : BytesAt w a1 l1) (b2 : BytesAt w a2 l2) (b3 : BytesAt w a3 l3) (b4 : BytesAt w a4 l4) (hn : n1 + n2 + n3 + n4 ≤ 20000) (x y : Int) (u v : Nat) (hx : x + 9223372036854775808 = (u : Int)) (hy : y + 9223372036854775808 = (v : Int)) (hu : u < 18446744073709551616) (hv : v < 18446744073709551616) :
    Calls Tryd.prog 8 #[.slice a1 n1 c1, .slice a2 n2 c2, .slice a3 n3 c3, .slice a4 n4 c4, .int .i64 x, .int .i64 y] w fun e w' => e = .returned (.bool true) ∧ Fr [] w w' := by
  have q1 : (n1 : Int) + (n2 : Int) + (n3 : Int) + (n4 : Int) ≤ 20000 := by omega
  have HL1 := Lib.hid h1
  have HL2 := Lib.hid h2
  have HL3 := Lib.hid h3
  have HL4 := Lib.hid h4
  have HX := Lib.hid hx
  have HY := Lib.hid hy
  obtain ⟨K1, HK1⟩ : ∃ K, Hid ((putB l1).length = K) := ⟨(putB l1).length, rfl⟩
  obtain ⟨K2, HK2⟩ : ∃ K, Hid ((putB l2).length = K) := ⟨(putB l2).length, rfl⟩
  clear h1 h2 h3 h4 hx hy
  obtain ⟨P, HP⟩ : ∃ P, Hid (mkS (putB l1) = P) := ⟨_, rfl⟩
  obtain ⟨R, HR⟩ : ∃ P, Hid (mkS (putB l2) = P) := ⟨_, rfl⟩
  obtain ⟨X, HXs⟩ : ∃ P, Hid (mkS l1 = P) := ⟨_, rfl⟩
  obtain ⟨Y, HYs⟩ : ∃ P, Hid (mkS l2 = P) := ⟨_, rfl⟩
  obtain ⟨M, HM⟩ : ∃ P, Hid (mkS l3 = P) := ⟨_, rfl⟩
  obtain ⟨O, HO⟩ : ∃ P, Hid (mkS l4 = P) := ⟨_, rfl⟩
  obtain ⟨I, HI⟩ : ∃ P, Hid (mkS (be 8 u) = P) := ⟨_, rfl⟩
  obtain ⟨J, HJ⟩ : ∃ P, Hid (mkS (be 8 v) = P) := ⟨_, rfl⟩
  go_enter Tryd.func8, Tryd.ntmps8
  go_wp2_with fail
  refine (awake_any _ L).mono ?_
  rintro e w0 ⟨rfl, f0⟩
  go_wp2_with fail
  refine wp_region_noPanic ?_
  refine wp_region_held_drew (S := fun w' => Fr [] w0 w') (by kernel_rfl) (Fr.refl _ _).drew (fun hHeld => ?_)
  refine wpAnyH_take (i := 0) (v := ?_) rfl (by kernel_rfl) (by kernel_rfl) (by kernel_rfl) (fun _ _ _ h => h) (Or.inl ⟨by kernel_rfl, ?_⟩) hHeld ?_
  rotate_left
  · intro w' hSw
    go_simp
    try with_reducible rfl
  try simp only [Act.put, List.getElem_toArray, List.getElem_cons_succ, List.getElem_cons_zero, List.setIfInBounds_toArray, List.set_cons_zero, List.set_cons_succ]
  refine wpAnyH_take (i := 3) (v := ?_) rfl (by kernel_rfl) (by kernel_rfl) (by kernel_rfl) (fun _ _ _ h => h) (Or.inl ⟨by kernel_rfl, ?_⟩) hHeld ?_
  rotate_left
  · intro w' hSw
    go_simp
    try with_reducible rfl
  try simp only [Act.put, List.getElem_toArray, List.getElem_cons_succ, List.getElem_cons_zero, List.setIfInBounds_toArray, List.set_cons_zero, List.set_cons_succ]
  refine wpAnyH_ready (rs := [1]) (by kernel_rfl) (by simp) ?_
  refine AllReadyH.cons rfl (fun K hK => ?_) AllReadyH.nil
  rw [if_pos (by kernel_rfl)]
  go_wp2_with (go_at_call 17; refine (putBytes_out _ a1 n1 c1 K1 l1 HL1.out (b1.kept f0.drew (by simp)) (by omega) HK1.out).mono ?_; rintro e w5 ⟨ad5, cap5, rfl, o5⟩)
  refine hK.out _ _ (hHeld.trans o5.2) (fun hHeld => ?_)
  clear hK K
  refine wpAnyH_mono (S' := fun w' => Fr [] w5 w') (fun w' f => hHeld.trans f) _ _ _ _ ?_
  have hHeld : Fr [] w5 w5 := Fr.refl _ _
  try simp only [Act.put, List.getElem_toArray, List.getElem_cons_succ, List.getElem_cons_zero, List.setIfInBounds_toArray, List.set_cons_zero, List.set_cons_succ]
  refine wpAnyH_take (i := 2) (v := ?_) rfl (by kernel_rfl) (by kernel_rfl) (by kernel_rfl) (fun _ _ _ h => h) (Or.inl ⟨by kernel_rfl, ?_⟩) hHeld ?_
  rotate_left
  · intro w' hSw
    have cv := run_convA w' (putB l1) ad5 K1 cap5 HK1.out (o5.bytes.kept hSw (by simp))
    rw [HP.out] at cv
    go_simp
    try with_reducible rfl
  try simp only [Act.put, List.getElem_toArray, List.getElem_cons_succ, List.getElem_cons_zero, List.setIfInBounds_toArray, List.set_cons_zero, List.set_cons_succ]
  refine wpAnyH_ready (rs := [4]) (by kernel_rfl) (by simp) ?_
  refine AllReadyH.cons rfl (fun K hK => ?_) AllReadyH.nil
  rw [if_pos (by kernel_rfl)]
  go_wp2_with (go_at_call 17; refine (putBytes_out _ a2 n2 c2 K2 l2 HL2.out (b2.kept (f0.drew.trans o5.2) (by simp)) (by omega) HK2.out).mono ?_; rintro e w6 ⟨ad6, cap6, rfl, o6⟩)
  refine hK.out _ _ (hHeld.trans o6.2) (fun hHeld => ?_)
  clear hK K
  refine wpAnyH_mono (S' := fun w' => Fr [] w6 w') (fun w' f => hHeld.trans f) _ _ _ _ ?_
  have hHeld : Fr [] w6 w6 := Fr.refl _ _
  try simp only [Act.put, List.getElem_toArray, List.getElem_cons_succ, List.getElem_cons_zero, List.setIfInBounds_toArray, List.set_cons_zero, List.set_cons_succ]
  refine wpAnyH_take (i := 5) (v := ?_) rfl (by kernel_rfl) (by kernel_rfl) (by kernel_rfl) (fun _ _ _ h => h) (Or.inl ⟨by kernel_rfl, ?_⟩) hHeld ?_
  rotate_left
  · intro w' hSw
    have cv := run_convA w' (putB l2) ad6 K2 cap6 HK2.out (o6.bytes.kept hSw (by simp))
    rw [HR.out] at cv
    go_simp
    try with_reducible rfl
  try simp only [Act.put, List.getElem_toArray, List.getElem_cons_succ, List.getElem_cons_zero, List.setIfInBounds_toArray, List.set_cons_zero, List.set_cons_succ]
  refine wpAnyH_take (i := 6) (v := ?_) rfl (by kernel_rfl) (by kernel_rfl) (by kernel_rfl) (fun _ _ _ h => h) (Or.inl ⟨by kernel_rfl, ?_⟩) hHeld ?_
  rotate_left
  · intro w' hSw
    go_simp
    try with_reducible rfl
  try simp only [Act.put, List.getElem_toArray, List.getElem_cons_succ, List.getElem_cons_zero, List.setIfInBounds_toArray, List.set_cons_zero, List.set_cons_succ]
  refine wpAnyH_take (i := 7) (v := ?_) rfl (by kernel_rfl) (by kernel_rfl) (by kernel_rfl) (fun _ _ _ h => h) (Or.inl ⟨by kernel_rfl, ?_⟩) hHeld ?_
  rotate_left
  · intro w' hSw
    go_simp
    try with_reducible rfl
  try simp only [Act.put, List.getElem_toArray, List.getElem_cons_succ, List.getElem_cons_zero, List.setIfInBounds_toArray, List.set_cons_zero, List.set_cons_succ]
  refine wpAnyH_done (by kernel_rfl) ?_ _
  refine NoPanic.normal ?_
  have f6 : Fr [] w w6 := (f0.drew.trans o5.2).trans o6.2
  clear o5 o6 f0
  go_wp2_with fail
  refine wp_region_noPanic ?_
  refine wp_region_held_drew (S := fun w' => Fr [] w6 w') (by kernel_rfl) (Fr.refl _ _).drew (fun hHeld => ?_)
  refine wpAnyH_take (i := 0) (v := ?_) rfl (by kernel_rfl) (by kernel_rfl) (by kernel_rfl) (fun _ _ _ h => h) (Or.inl ⟨by kernel_rfl, ?_⟩) hHeld ?_
  rotate_left
  · intro w' hSw
    go_simp
    try with_reducible rfl
  try simp only [Act.put, List.getElem_toArray, List.getElem_cons_succ, List.getElem_cons_zero, List.setIfInBounds_toArray, List.set_cons_zero, List.set_cons_succ]
  refine wpAnyH_take (i := 2) (v := ?_) rfl (by kernel_rfl) (by kernel_rfl) (by kernel_rfl) (fun _ _ _ h => h) (Or.inl ⟨by kernel_rfl, ?_⟩) hHeld ?_
  rotate_left
  · intro w' hSw
    go_simp
    try with_reducible rfl
  try simp only [Act.put, List.getElem_toArray, List.getElem_cons_succ, List.getElem_cons_zero, List.setIfInBounds_toArray, List.set_cons_zero, List.set_cons_succ]
  refine wpAnyH_take (i := 1) (v := ?_) rfl (by kernel_rfl) (by kernel_rfl) (by kernel_rfl) (fun _ _ _ h => h) (Or.inl ⟨by kernel_rfl, ?_⟩) hHeld ?_
  rotate_left
  · intro w' hSw
    have cv := run_convA w' l1 a1 n1 c1 HL1.out (b1.kept (f6.trans hSw) (by simp))
    rw [HXs.out] at cv
    go_simp
    try with_reducible rfl
  try simp only [Act.put, List.getElem_toArray, List.getElem_cons_succ, List.getElem_cons_zero, List.setIfInBounds_toArray, List.set_cons_zero, List.set_cons_succ]
  refine wpAnyH_take (i := 3) (v := ?_) rfl (by kernel_rfl) (by kernel_rfl) (by kernel_rfl) (fun _ _ _ h => h) (Or.inl ⟨by kernel_rfl, ?_⟩) hHeld ?_
  rotate_left
  · intro w' hSw
    have cv := run_convA w' l2 a2 n2 c2 HL2.out (b2.kept (f6.trans hSw) (by simp))
    rw [HYs.out] at cv
    go_simp
    try with_reducible rfl
  try simp only [Act.put, List.getElem_toArray, List.getElem_cons_succ, List.getElem_cons_zero, List.setIfInBounds_toArray, List.set_cons_zero, List.set_cons_succ]
  refine wpAnyH_take (i := 4) (v := ?_) rfl (by kernel_rfl) (by kernel_rfl) (by kernel_rfl) (fun _ _ _ h => h) (Or.inl ⟨by kernel_rfl, ?_⟩) hHeld ?_
  rotate_left
  · intro w' hSw
    go_simp
    try with_reducible rfl
  try simp only [Act.put, List.getElem_toArray, List.getElem_cons_succ, List.getElem_cons_zero, List.setIfInBounds_toArray, List.set_cons_zero, List.set_cons_succ]
  refine wpAnyH_take (i := 5) (v := ?_) rfl (by kernel_rfl) (by kernel_rfl) (by kernel_rfl) (fun _ _ _ h => h) (Or.inl ⟨by kernel_rfl, ?_⟩) hHeld ?_
  rotate_left
  · intro w' hSw
    go_simp
    try with_reducible rfl
  try simp only [Act.put, List.getElem_toArray, List.getElem_cons_succ, List.getElem_cons_zero, List.setIfInBounds_toArray, List.set_cons_zero, List.set_cons_succ]
  refine wpAnyH_done (by kernel_rfl) ?_ _
  refine NoPanic.normal ?_
  have f7 := f6.drew
  clear f6
  generalize w6.drew = w7 at f7 ⊢
  have hlp : P.toList = putB l1 := by rw [← HP.out]; exact ByteArray.toList_mk _
  have hlr : R.toList = putB l2 := by rw [← HR.out]; exact ByteArray.toList_mk _
  have hlx : X.toList = l1 := by rw [← HXs.out]; exact ByteArray.toList_mk _
  have hly : Y.toList = l2 := by rw [← HYs.out]; exact ByteArray.toList_mk _
  have hlm : M.toList = l3 := by rw [← HM.out]; exact ByteArray.toList_mk _
  have hlo : O.toList = l4 := by rw [← HO.out]; exact ByteArray.toList_mk _
  have hli : I.toList = be 8 u := by rw [← HI.out]; exact ByteArray.toList_mk _
  have hlj : J.toList = be 8 v := by rw [← HJ.out]; exact ByteArray.toList_mk _
  have HIJ : Hid (I.toList = be 8 u ∧ J.toList = be 8 v ∧ M.toList = l3 ∧ O.toList = l4) := ⟨hli, hlj, hlm, hlo⟩
  clear hli hlj
  by_cases heq : l1 = l2
  · have e1 : Op.bytesLess P.toList R.toList = false := by rw [hlp, hlr, heq]; exact less_irrefl _
    have e2 : Op.bytesLess X.toList Y.toList = false := by rw [hlx, hly, heq]; exact less_irrefl _
    have e3 : (P.toList == R.toList) = true := by rw [hlp, hlr, heq]; simp
    have e4 : (X.toList == Y.toList) = true := by rw [hlx, hly, heq]; simp
    clear hlp hlr hlx hly hlm hlo heq
    go_wp2_with fail
    refine wp_region_noPanic ?_
    refine wp_region_held_drew (S := fun w' => Fr [] w7 w') (by kernel_rfl) (Fr.refl _ _).drew (fun hHeld => ?_)
    refine wpAnyH_take (i := 0) (v := ?_) rfl (by kernel_rfl) (by kernel_rfl) (by kernel_rfl) (fun _ _ _ h => h) (Or.inl ⟨by kernel_rfl, ?_⟩) hHeld ?_
    rotate_left
    · intro w' hSw
      go_simp
      try with_reducible rfl
    try simp only [Act.put, List.getElem_toArray, List.getElem_cons_succ, List.getElem_cons_zero, List.setIfInBounds_toArray, List.set_cons_zero, List.set_cons_succ]
    refine wpAnyH_take (i := 3) (v := ?_) rfl (by kernel_rfl) (by kernel_rfl) (by kernel_rfl) (fun _ _ _ h => h) (Or.inl ⟨by kernel_rfl, ?_⟩) hHeld ?_
    rotate_left
    · intro w' hSw
      go_simp
      try with_reducible rfl
    try simp only [Act.put, List.getElem_toArray, List.getElem_cons_succ, List.getElem_cons_zero, List.setIfInBounds_toArray, List.set_cons_zero, List.set_cons_succ]
    refine wpAnyH_ready (rs := [1]) (by kernel_rfl) (by simp) ?_
    refine AllReadyH.cons rfl (fun K hK => ?_) AllReadyH.nil
    rw [if_pos (by kernel_rfl)]
    go_wp2_with (go_at_call 13; refine (putInt_out _ x u HX.out hu).mono ?_; rintro e w8 ⟨ad8, cap8, rfl, o8⟩)
    refine hK.out _ _ (hHeld.trans o8.2) (fun hHeld => ?_)
    clear hK K
    refine wpAnyH_mono (S' := fun w' => Fr [] w8 w') (fun w' f => hHeld.trans f) _ _ _ _ ?_
    have hHeld : Fr [] w8 w8 := Fr.refl _ _
    try simp only [Act.put, List.getElem_toArray, List.getElem_cons_succ, List.getElem_cons_zero, List.setIfInBounds_toArray, List.set_cons_zero, List.set_cons_succ]
    refine wpAnyH_take (i := 2) (v := ?_) rfl (by kernel_rfl) (by kernel_rfl) (by kernel_rfl) (fun _ _ _ h => h) (Or.inl ⟨by kernel_rfl, ?_⟩) hHeld ?_
    rotate_left
    · intro w' hSw
      have cv := run_convA w' (be 8 u) ad8 8 cap8 (be_length _ _) (o8.bytes.kept hSw (by simp))
      rw [HI.out] at cv
      go_simp
      try with_reducible rfl
    try simp only [Act.put, List.getElem_toArray, List.getElem_cons_succ, List.getElem_cons_zero, List.setIfInBounds_toArray, List.set_cons_zero, List.set_cons_succ]
    refine wpAnyH_ready (rs := [4]) (by kernel_rfl) (by simp) ?_
    refine AllReadyH.cons rfl (fun K hK => ?_) AllReadyH.nil
    rw [if_pos (by kernel_rfl)]
    go_wp2_with (go_at_call 13; refine (putInt_out _ y v HY.out hv).mono ?_; rintro e w9 ⟨ad9, cap9, rfl, o9⟩)
    refine hK.out _ _ (hHeld.trans o9.2) (fun hHeld => ?_)
    clear hK K
    refine wpAnyH_mono (S' := fun w' => Fr [] w9 w') (fun w' f => hHeld.trans f) _ _ _ _ ?_
    have hHeld : Fr [] w9 w9 := Fr.refl _ _
    try simp only [Act.put, List.getElem_toArray, List.getElem_cons_succ, List.getElem_cons_zero, List.setIfInBounds_toArray, List.set_cons_zero, List.set_cons_succ]
    refine wpAnyH_take (i := 5) (v := ?_) rfl (by kernel_rfl) (by kernel_rfl) (by kernel_rfl) (fun _ _ _ h => h) (Or.inl ⟨by kernel_rfl, ?_⟩) hHeld ?_
    rotate_left
    · intro w' hSw
      have cv := run_convA w' (be 8 v) ad9 8 cap9 (be_length _ _) (o9.bytes.kept hSw (by simp))
      rw [HJ.out] at cv
      go_simp
      try with_reducible rfl
    try simp only [Act.put, List.getElem_toArray, List.getElem_cons_succ, List.getElem_cons_zero, List.setIfInBounds_toArray, List.set_cons_zero, List.set_cons_succ]
    refine wpAnyH_take (i := 6) (v := ?_) rfl (by kernel_rfl) (by kernel_rfl) (by kernel_rfl) (fun _ _ _ h => h) (Or.inl ⟨by kernel_rfl, ?_⟩) hHeld ?_
    rotate_left
    · intro w' hSw
      go_simp
      try with_reducible rfl
    try simp only [Act.put, List.getElem_toArray, List.getElem_cons_succ, List.getElem_cons_zero, List.setIfInBounds_toArray, List.set_cons_zero, List.set_cons_succ]
    refine wpAnyH_take (i := 7) (v := ?_) rfl (by kernel_rfl) (by kernel_rfl) (by kernel_rfl) (fun _ _ _ h => h) (Or.inl ⟨by kernel_rfl, ?_⟩) hHeld ?_
    rotate_left
    · intro w' hSw
      go_simp
      try with_reducible rfl
    try simp only [Act.put, List.getElem_toArray, List.getElem_cons_succ, List.getElem_cons_zero, List.setIfInBounds_toArray, List.set_cons_zero, List.set_cons_succ]
    refine wpAnyH_done (by kernel_rfl) ?_ _
    refine NoPanic.normal ?_
    have f9 : Fr [] w w9 := (f7.drew.trans o8.2).trans o9.2
    obtain ⟨hli, hlj, hlm, hlo⟩ := HIJ.out
    have hxy : decide (u < v) = decide (x < y) := by
      have h1 := HX.out
      have h2 := HY.out
      congr 1
      apply propext
      omega
    have z1 : I.size ≤ 100000 := by rw [str_size I _ hli, be_length]; omega
    have z2 : J.size ≤ 100000 := by rw [str_size J _ hlj, be_length]; omega
    have z3 : M.size ≤ 100000 := by rw [str_size M _ hlm]; have h1 := HL3.out; omega
    have z4 : O.size ≤ 100000 := by rw [str_size O _ hlo]; have h1 := HL4.out; omega
    have ad1 := add_str I M (by omega)
    have ad2 := add_str J O (by omega)
    obtain ⟨IM, HIM⟩ : ∃ S, Hid (I ++ M = S) := ⟨_, rfl⟩
    obtain ⟨JO, HJO⟩ : ∃ S, Hid (J ++ O = S) := ⟨_, rfl⟩
    rw [HIM.out] at ad1
    rw [HJO.out] at ad2
    have cvm := run_convA w9 l3 a3 n3 c3 HL3.out (b3.kept f9 (by simp))
    rw [HM.out] at cvm
    have cvo := run_convA w9 l4 a4 n4 c4 HL4.out (b4.kept f9 (by simp))
    rw [HO.out] at cvo
    clear o8 o9 z1 z2 z3 z4
    by_cases hxe : x = y
    · have huv : u = v := by have h1 := HX.out; have h2 := HY.out; omega
      have e1 : Op.bytesLess I.toList J.toList = false := by rw [hli, hlj, huv]; exact less_irrefl _
      have e2 : (I.toList == J.toList) = true := by rw [hli, hlj, huv]; simp
      have e3 : (x == y) = true := by simpa using hxe
      have e4 : decide (x < y) = false := by simp; omega
      clear hli hlj hlm hlo huv hxy HX HY hxe
      go_wp2_with fail
      go_ret
      exact ⟨by simp, f9⟩
    · have huv : u ≠ v := by have h1 := HX.out; have h2 := HY.out; omega
      have e0 := be_less 8 u v l3 l4 (by omega) (by omega) huv
      have e0' := be_less 8 u v [] [] (by omega) (by omega) huv
      rw [List.append_nil, List.append_nil] at e0'
      obtain ⟨lt2, hlt2⟩ : ∃ b, decide (x < y) = b := ⟨_, rfl⟩
      have e1 : Op.bytesLess I.toList J.toList = lt2 := by rw [hli, hlj, e0', hxy, hlt2]
      have e2 : (I.toList == J.toList) = false := by
        rw [hli, hlj, beq_eq_false_iff_ne]
        intro e
        rw [e, less_irrefl] at e0'
        have e0'' := be_less 8 v u [] [] (by omega) (by omega) (Ne.symm huv)
        rw [List.append_nil, List.append_nil, e, less_irrefl] at e0''
        simp at e0' e0''
        omega
      have e3 : (x == y) = false := by simpa using hxe
      have e5 : Op.bytesLess IM.toList JO.toList = lt2 := by rw [← HIM.out, ← HJO.out, str_app, str_app, hli, hlj, hlm, hlo, e0, hxy, hlt2]
      clear hli hlj hlm hlo huv hxy HX HY hxe e0 e0'
      go_wp2_with fail
      go_ret
      exact ⟨by simp, f9⟩
  · obtain ⟨lt, hlt⟩ : ∃ lt, Op.bytesLess l1 l2 = lt := ⟨_, rfl⟩
    have e1 : Op.bytesLess P.toList R.toList = lt := by
      have := putB_less l1 l2 [] [] heq
      rw [List.append_nil, List.append_nil] at this
      rw [hlp, hlr, this, hlt]
    have e2 : Op.bytesLess X.toList Y.toList = lt := by rw [hlx, hly, hlt]
    have e3 : (P.toList == R.toList) = false := by
      rw [hlp, hlr, beq_eq_false_iff_ne]
      exact fun e => heq (putB_inj e)
    have e4 : (X.toList == Y.toList) = false := by rw [hlx, hly, beq_eq_false_iff_ne]; exact heq
    obtain ⟨PM, HPM⟩ : ∃ S, Hid (P ++ M = S) := ⟨_, rfl⟩
    obtain ⟨RO, HRO⟩ : ∃ S, Hid (R ++ O = S) := ⟨_, rfl⟩
    have z1 : P.size ≤ 100000 := by rw [str_size P _ hlp]; have := esc_length_le l1; have h1 := HL1.out; simp [putB]; omega
    have z2 : R.size ≤ 100000 := by rw [str_size R _ hlr]; have := esc_length_le l2; have h1 := HL2.out; simp [putB]; omega
    have z3 : M.size ≤ 100000 := by rw [str_size M _ hlm]; have h1 := HL3.out; omega
    have z4 : O.size ≤ 100000 := by rw [str_size O _ hlo]; have h1 := HL4.out; omega
    have ad1 := add_str P M (by omega)
    have ad2 := add_str R O (by omega)
    rw [HPM.out] at ad1
    rw [HRO.out] at ad2
    clear z1 z2 z3 z4
    have e5 : Op.bytesLess PM.toList RO.toList = lt := by rw [← HPM.out, ← HRO.out, str_app, str_app, hlp, hlr, hlm, hlo, putB_less l1 l2 l3 l4 heq, hlt]
    have HF1 : Hid (Lib.hasPrefix P.data.toList R.data.toList = false) := by
      show Lib.hasPrefix P.data.toList R.data.toList = false
      rw [← ByteArray.toList_eq, ← ByteArray.toList_eq, hlp, hlr]
      exact pre_false (fun e => heq (putB_pre e).symm)
    have HF2 : Hid (Lib.hasPrefix R.data.toList P.data.toList = false) := by
      show Lib.hasPrefix R.data.toList P.data.toList = false
      rw [← ByteArray.toList_eq, ← ByteArray.toList_eq, hlp, hlr]
      exact pre_false (fun e => heq (putB_pre e))
    have cvm := run_convA w7 l3 a3 n3 c3 HL3.out (b3.kept f7 (by simp))
    rw [HM.out] at cvm
    have cvo := run_convA w7 l4 a4 n4 c4 HL4.out (b4.kept f7 (by simp))
    rw [HO.out] at cvo
    clear hlp hlr hlx hly hlm hlo heq hlt
    go_wp2_with fail
    refine (Tryd.strings_HasPrefix P R _).mono ?_
    rw [HF1.out]
    rintro e w7 ⟨rfl, rfl⟩
    go_wp2_with fail
    refine (Tryd.strings_HasPrefix R P _).mono ?_
    rw [HF2.out]
    rintro e w7 ⟨rfl, rfl⟩
    go_wp2_with fail
    clear e1 e2 e3 e4 e5 ad1 ad2 cvm cvo
    refine wp_region_noPanic ?_
    refine wp_region_held_drew (S := fun w' => Fr [] w7 w') (by kernel_rfl) (Fr.refl _ _).drew (fun hHeld => ?_)
    refine wpAnyH_take (i := 0) (v := ?_) rfl (by kernel_rfl) (by kernel_rfl) (by kernel_rfl) (fun _ _ _ h => h) (Or.inl ⟨by kernel_rfl, ?_⟩) hHeld ?_
    rotate_left
    · intro w' hSw
      go_simp
      try with_reducible rfl
    try simp only [Act.put, List.getElem_toArray, List.getElem_cons_succ, List.getElem_cons_zero, List.setIfInBounds_toArray, List.set_cons_zero, List.set_cons_succ]
    refine wpAnyH_take (i := 3) (v := ?_) rfl (by kernel_rfl) (by kernel_rfl) (by kernel_rfl) (fun _ _ _ h => h) (Or.inl ⟨by kernel_rfl, ?_⟩) hHeld ?_
    rotate_left
    · intro w' hSw
      go_simp
      try with_reducible rfl
    try simp only [Act.put, List.getElem_toArray, List.getElem_cons_succ, List.getElem_cons_zero, List.setIfInBounds_toArray, List.set_cons_zero, List.set_cons_succ]
    refine wpAnyH_ready (rs := [1]) (by kernel_rfl) (by simp) ?_
    refine AllReadyH.cons rfl (fun K hK => ?_) AllReadyH.nil
    rw [if_pos (by kernel_rfl)]
    go_wp2_with (go_at_call 13; refine (putInt_out _ x u HX.out hu).mono ?_; rintro e w8 ⟨ad8, cap8, rfl, o8⟩)
    refine hK.out _ _ (hHeld.trans o8.2) (fun hHeld => ?_)
    clear hK K
    refine wpAnyH_mono (S' := fun w' => Fr [] w8 w') (fun w' f => hHeld.trans f) _ _ _ _ ?_
    have hHeld : Fr [] w8 w8 := Fr.refl _ _
    try simp only [Act.put, List.getElem_toArray, List.getElem_cons_succ, List.getElem_cons_zero, List.setIfInBounds_toArray, List.set_cons_zero, List.set_cons_succ]
    refine wpAnyH_take (i := 2) (v := ?_) rfl (by kernel_rfl) (by kernel_rfl) (by kernel_rfl) (fun _ _ _ h => h) (Or.inl ⟨by kernel_rfl, ?_⟩) hHeld ?_
    rotate_left
    · intro w' hSw
      have cv := run_convA w' (be 8 u) ad8 8 cap8 (be_length _ _) (o8.bytes.kept hSw (by simp))
      rw [HI.out] at cv
      go_simp
      try with_reducible rfl
    try simp only [Act.put, List.getElem_toArray, List.getElem_cons_succ, List.getElem_cons_zero, List.setIfInBounds_toArray, List.set_cons_zero, List.set_cons_succ]
    refine wpAnyH_ready (rs := [4]) (by kernel_rfl) (by simp) ?_
    refine AllReadyH.cons rfl (fun K hK => ?_) AllReadyH.nil
    rw [if_pos (by kernel_rfl)]
    go_wp2_with (go_at_call 13; refine (putInt_out _ y v HY.out hv).mono ?_; rintro e w9 ⟨ad9, cap9, rfl, o9⟩)
    refine hK.out _ _ (hHeld.trans o9.2) (fun hHeld => ?_)
    clear hK K
    refine wpAnyH_mono (S' := fun w' => Fr [] w9 w') (fun w' f => hHeld.trans f) _ _ _ _ ?_
    have hHeld : Fr [] w9 w9 := Fr.refl _ _
    try simp only [Act.put, List.getElem_toArray, List.getElem_cons_succ, List.getElem_cons_zero, List.setIfInBounds_toArray, List.set_cons_zero, List.set_cons_succ]
    refine wpAnyH_take (i := 5) (v := ?_) rfl (by kernel_rfl) (by kernel_rfl) (by kernel_rfl) (fun _ _ _ h => h) (Or.inl ⟨by kernel_rfl, ?_⟩) hHeld ?_
    rotate_left
    · intro w' hSw
      have cv := run_convA w' (be 8 v) ad9 8 cap9 (be_length _ _) (o9.bytes.kept hSw (by simp))
      rw [HJ.out] at cv
      go_simp
      try with_reducible rfl
    try simp only [Act.put, List.getElem_toArray, List.getElem_cons_succ, List.getElem_cons_zero, List.setIfInBounds_toArray, List.set_cons_zero, List.set_cons_succ]
    refine wpAnyH_take (i := 6) (v := ?_) rfl (by kernel_rfl) (by kernel_rfl) (by kernel_rfl) (fun _ _ _ h => h) (Or.inl ⟨by kernel_rfl, ?_⟩) hHeld ?_
    rotate_left
    · intro w' hSw
      go_simp
      try with_reducible rfl
    try simp only [Act.put, List.getElem_toArray, List.getElem_cons_succ, List.getElem_cons_zero, List.setIfInBounds_toArray, List.set_cons_zero, List.set_cons_succ]
    refine wpAnyH_take (i := 7) (v := ?_) rfl (by kernel_rfl) (by kernel_rfl) (by kernel_rfl) (fun _ _ _ h => h) (Or.inl ⟨by kernel_rfl, ?_⟩) hHeld ?_
    rotate_left
    · intro w' hSw
      go_simp
      try with_reducible rfl
    try simp only [Act.put, List.getElem_toArray, List.getElem_cons_succ, List.getElem_cons_zero, List.setIfInBounds_toArray, List.set_cons_zero, List.set_cons_succ]
    refine wpAnyH_done (by kernel_rfl) ?_ _
    refine NoPanic.normal ?_
    have f9 : Fr [] w w9 := (f7.drew.trans o8.2).trans o9.2
    obtain ⟨hli, hlj, hlm, hlo⟩ := HIJ.out
    have hxy : decide (u < v) = decide (x < y) := by
      have h1 := HX.out
      have h2 := HY.out
      congr 1
      apply propext
      omega
    have z1 : I.size ≤ 100000 := by rw [str_size I _ hli, be_length]; omega
    have z2 : J.size ≤ 100000 := by rw [str_size J _ hlj, be_length]; omega
    have z3 : M.size ≤ 100000 := by rw [str_size M _ hlm]; have h1 := HL3.out; omega
    have z4 : O.size ≤ 100000 := by rw [str_size O _ hlo]; have h1 := HL4.out; omega
    have ad1 := add_str I M (by omega)
    have ad2 := add_str J O (by omega)
    obtain ⟨IM, HIM⟩ : ∃ S, Hid (I ++ M = S) := ⟨_, rfl⟩
    obtain ⟨JO, HJO⟩ : ∃ S, Hid (J ++ O = S) := ⟨_, rfl⟩
    rw [HIM.out] at ad1
    rw [HJO.out] at ad2
    have cvm := run_convA w9 l3 a3 n3 c3 HL3.out (b3.kept f9 (by simp))
    rw [HM.out] at cvm
    have cvo := run_convA w9 l4 a4 n4 c4 HL4.out (b4.kept f9 (by simp))
    rw [HO.out] at cvo
    clear o8 o9 z1 z2 z3 z4
    by_cases hxe : x = y
    · have huv : u = v := by have h1 := HX.out; have h2 := HY.out; omega
      have e1 : Op.bytesLess I.toList J.toList = false := by rw [hli, hlj, huv]; exact less_irrefl _
      have e2 : (I.toList == J.toList) = true := by rw [hli, hlj, huv]; simp
      have e3 : (x == y) = true := by simpa using hxe
      have e4 : decide (x < y) = false := by simp; omega
      clear hli hlj hlm hlo huv hxy HX HY hxe
      go_wp2_with fail
      go_ret
      exact ⟨by simp, f9⟩
    · have huv : u ≠ v := by have h1 := HX.out; have h2 := HY.out; omega
      have e0 := be_less 8 u v l3 l4 (by omega) (by omega) huv
      have e0' := be_less 8 u v [] [] (by omega) (by omega) huv
      rw [List.append_nil, List.append_nil] at e0'
      obtain ⟨lt2, hlt2⟩ : ∃ b, decide (x < y) = b := ⟨_, rfl⟩
      have e1 : Op.bytesLess I.toList J.toList = lt2 := by rw [hli, hlj, e0', hxy, hlt2]
      have e2 : (I.toList == J.toList) = false := by
        rw [hli, hlj, beq_eq_false_iff_ne]
        intro e
        rw [e, less_irrefl] at e0'
        have e0'' := be_less 8 v u [] [] (by omega) (by omega) (Ne.symm huv)
        rw [List.append_nil, List.append_nil, e, less_irrefl] at e0''
        simp at e0' e0''
        omega
      have e3 : (x == y) = false := by simpa using hxe
      have e5 : Op.bytesLess IM.toList JO.toList = lt2 := by rw [← HIM.out, ← HJO.out, str_app, str_app, hli, hlj, hlm, hlo, e0, hxy, hlt2]
      clear hli hlj hlm hlo huv hxy HX HY hxe e0 e0'
      go_wp2_with fail
      go_ret
      exact ⟨by simp, f9⟩

end Go.Proofs.YthaekjolbjmjfaaDoor
