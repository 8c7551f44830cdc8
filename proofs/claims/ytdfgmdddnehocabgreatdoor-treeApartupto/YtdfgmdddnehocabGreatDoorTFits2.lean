/-
  Whether a node fits: the walk.
-/
import Derived.Test.YtdfgmdddnehocabGreatDoorTFits
import Derived.Deep.Cut
namespace Go.Proofs.YtdfgmdddnehocabGreatDoor
open Go.RowKit Go.Maps Go.Lib

abbrev lk0 : Array Value := #[.int .u8 0, .int .u8 0, .int .u8 0]
theorem lkAllocd {W0 cur w5 : World} (gg : Fr [] W0 cur) (f5 : Fr [] (cur.alloc (.cells lk0 189)) w5) : Cells w5 cur.heap.size 189 lk0 ∧ Fr [] W0 w5 ∧ W0.heap.size ≤ cur.heap.size :=
  ⟨Cells.kept (heap_alloc_new cur _) f5 (by simp), (gg.alloc _).trans f5, gg.size⟩
theorem lkAllocdD {W0 cur w5 : World} (gg : Fr [] W0 cur.drew) (f5 : Fr [] (cur.alloc (.cells lk0 189)).drew w5) : Cells w5 cur.heap.size 189 lk0 ∧ Fr [] W0 w5 ∧ W0.heap.size ≤ cur.heap.size := lkAllocd (cur := cur.drew) gg f5
theorem Fr.put3 {a w : World} (h : Fr [] a w) {b : Nat} (hb : a.heap.size ≤ b) (u v x : Value) : Fr [] a (((w.setCell ⟨b, 0, none⟩ u).setCell ⟨b, 1, none⟩ v).setCell ⟨b, 2, none⟩ x) :=
  ((h.setCell ⟨b, 0, none⟩ u (fun hh => absurd hh (by simp; omega))).setCell ⟨b, 1, none⟩ v (fun hh => absurd hh (by simp; omega))).setCell ⟨b, 2, none⟩ x (fun hh => absurd hh (by simp; omega))
theorem Cells.put3 {w : World} {b : Nat} {T : TypeId} (h : Cells w b T lk0) (u v x : Value) : Cells (((w.setCell ⟨b, 0, none⟩ u).setCell ⟨b, 1, none⟩ v).setCell ⟨b, 2, none⟩ x) b T #[u, v, x] := by
  have h1 := heap_setCell_same w b 0 _ _ u h
  have h2 := heap_setCell_same _ b 1 _ _ v h1
  have h3 := heap_setCell_same _ b 2 _ _ x h2
  unfold Cells
  rw [h3]
  rfl

theorem nmIs_lt (l : List UInt8) : nmIs l < 256 := by
  unfold nmIs
  repeat' split
  all_goals omega
theorem vlIs_lt (l : List UInt8) : vlIs l < 256 := by
  unfold vlIs
  repeat' split
  all_goals omega
theorem plIs_lt (t : List Nd) (p : Int) : plIs t p < 256 := by
  unfold plIs
  repeat' split
  all_goals omega
theorem lkAt_ok (k : Nat) : lkOk (lkAt k) := by
  unfold lkAt
  by_cases h : k < 7
  · match k, h with
    | 0, _ => decide
    | 1, _ => decide
    | 2, _ => decide
    | 3, _ => decide
    | 4, _ => decide
    | 5, _ => decide
    | 6, _ => decide
  · rw [List.getD_eq_getElem?_getD, List.getElem?_eq_none (by show 7 ≤ k; omega)]
    decide

/-- What the node at a place is. -/
def ownLk (t : List Nd) (k : Nat) : Nat × Nat × Nat := (nmIs (bl (nam t k)), vlIs (bl (vlu t k)), plIs t (par t k))
def besideB (t : List Nd) (k q : Nat) : Bool := decide (0 < k) && (decide (par t (k - 1) = par t k) && decide (knd t (k - 1) = q))
def extraB (t : List Nd) (k q : Nat) (p : Int) : Bool := if q = 1 then decide (k = 0) else if q = 3 then (decide ((k : Int) - 1 = p) || besideB t k 3) else if q = 4 then !besideB t k 4 else true
def fitsS (t : List Nd) (k : Nat) : Bool := decide (lkAnd (ownLk t k) (lkAt (knd t k)) = ownLk t k) && extraB t k (knd t k) (par t k)
set_option maxHeartbeats 8000000 in
set_option maxRecDepth 100000 in
theorem fits_any (w : World) (L : LaidT w) (hK : Looks w) (b off c : Nat) (t : List Nd) (hN : NodesIn w b off t) (k : Nat) (hk : k < t.length) (hl : t.length ≤ 16384) (hS : Sane t) (ho : Ord t k) :
    Calls Tryz.prog 88 #[.slice (some ⟨b, off, none⟩) t.length c, .int .i64 (k : Int)] w fun e w' => e = .returned (.bool (fitsS t k)) ∧ Fr [] w w' := by
  obtain ⟨B, hB0⟩ : ∃ B, fitsS t k = B := ⟨_, rfl⟩
  rw [hB0]
  have HB : Hid ((decide (lkAnd (ownLk t k) (lkAt (knd t k)) = ownLk t k) && extraB t k (knd t k) (par t k)) = B) := hB0
  clear hB0
  have hk' : (k : Int) < (t.length : Int) := by omega
  have hk0 : (0 : Int) ≤ (k : Int) := by omega
  obtain ⟨c0, c1, c2, c3⟩ := hN k hk
  have hpl : par t k < (t.length : Int) := by have := ho.2.1; omega
  obtain ⟨N, HN⟩ : ∃ N, Hid (nmIs (bl (nam t k)) = N) := ⟨_, rfl⟩
  obtain ⟨V, HV⟩ : ∃ V, Hid (vlIs (bl (vlu t k)) = V) := ⟨_, rfl⟩
  obtain ⟨Pl, HP⟩ : ∃ Pl, Hid (plIs t (par t k) = Pl) := ⟨_, rfl⟩
  have HO : Hid (ownLk t k = (N, V, Pl)) := by
    show (nmIs (bl (nam t k)), vlIs (bl (vlu t k)), plIs t (par t k)) = _
    rw [HN.out, HV.out, HP.out]
  generalize nam t k = NM at c1 HN
  generalize vlu t k = VL at c2 HV
  have HL := Hid.mk L
  have HK := Hid.mk hK
  have HNd := Hid.mk hN
  obtain ⟨p, hp⟩ : ∃ p, par t k = p := ⟨_, rfl⟩
  rw [hp] at c3 hpl HP
  obtain ⟨q, hq⟩ : ∃ q, knd t k = q := ⟨_, rfl⟩
  rw [hq] at c0
  have hPL := Hid.mk hpl
  have hq256 : q < 256 := by rw [← hq]; exact (hS k hk).1
  obtain ⟨X, HX⟩ : ∃ X, Hid (lkAt q = X) := ⟨_, rfl⟩
  replace HB : Hid ((decide (lkAnd (N, V, Pl) X = (N, V, Pl)) && extraB t k q p) = B) := by
    have h := HB.out
    rw [hq, hp, HX.out, HO.out] at h
    exact h
  have HOk : Hid (lkOk (N, V, Pl) ∧ lkOk X) := by
    rw [← HN.out, ← HV.out, ← HP.out, ← HX.out]
    exact ⟨⟨nmIs_lt _, vlIs_lt _, plIs_lt _ _⟩, lkAt_ok q⟩
  clear L hK hN hpl ho
  go_enter Tryz.func88, Tryz.ntmps88
  go_wp2_with fail
  have hcn : Cells (w.alloc (.cells #[.int .u8 (q : Int), .string NM, .string VL, .int .i64 p] 62)) w.heap.size 62 #[.int .u8 (q : Int), .string NM, .string VL, .int .i64 p] := heap_alloc_new w _
  have fn : Fr [] w (w.alloc (.cells #[.int .u8 (q : Int), .string NM, .string VL, .int .i64 p] 62)) := (Fr.refl _ _).alloc _
  have sn : w.heap.size ≤ w.heap.size := Nat.le_refl _
  generalize w.alloc (.cells #[.int .u8 (q : Int), .string NM, .string VL, .int .i64 p] 62) = w4 at hcn fn ⊢
  generalize hgn : w.heap.size = gn at hcn ⊢
  clear c0 c1 c2 c3 sn
  go_cut [6] from 7 (fun s6 wx => ∃ g, s6 = .pointer (some ⟨g, 0, none⟩) ∧ Cells wx g 189 (lkC (N, V, Pl)) ∧ Fr [] w4 wx)
  case first => as_aux_lemma =>
    obtain ⟨W0, hW0⟩ : ∃ W0, W0 = w4 := ⟨_, rfl⟩
    have gg : Fr [] W0 w4.drew := (by rw [hW0]; exact (Fr.refl _ _).drew)
    have gw : Hid (Fr [] w W0) := (by rw [hW0]; exact fn)
    have SK : Hid (∀ w', Fr [] W0 w' → (w'.cell? ⟨gn, 1, none⟩ = some (.string NM) ∧ w'.cell? ⟨gn, 2, none⟩ = some (.string VL) ∧ w'.cell? ⟨gn, 3, none⟩ = some (.int .i64 p))) := (by rw [hW0]; exact fun w' g => ⟨(hcn.kept g (by simp)).cell 1, (hcn.kept g (by simp)).cell 2, (hcn.kept g (by simp)).cell 3⟩)
    have HW0 : Hid (W0 = w4) := hW0
    clear hW0 fn
    go_region_held3 (fun w' => w'.cell? ⟨gn, 1, none⟩ = some (.string NM) ∧ w'.cell? ⟨gn, 2, none⟩ = some (.string VL) ∧ w'.cell? ⟨gn, 3, none⟩ = some (.int .i64 p)) (first | exact SK.out _ gg | exact SK.out _ (gg.alloc _) | exact SK.out _ (gg.put3 zl.out _ _ _))
      ((first
        | (go_at_call 95; refine (nameIs_any _ (HL.out.kept (gw.out.trans (by first | exact gg | exact gg.alloc _))) NM).mono ?_; rw [HN.out]; rintro e w5 ⟨rfl, f5⟩; (first | (replace gg := gg.trans f5; (try replace zb := zb.kept f5 (by simp))) | (obtain ⟨zb, gg', zl'⟩ := lkAllocdD gg f5; have zl : Hid (W0.heap.size ≤ _) := zl'; replace gg := gg') | (obtain ⟨zb, gg', zl'⟩ := lkAllocd gg f5; have zl : Hid (W0.heap.size ≤ _) := zl'; replace gg := gg')); (try (have z0 : World.cell? _ _ = some (.int .u8 0) := zb.cell 0; have z1 : World.cell? _ _ = some (.int .u8 0) := zb.cell 1; have z2 : World.cell? _ _ = some (.int .u8 0) := zb.cell 2; have z3 := zb.frozen 0; have z4 := zb.frozen 1; have z5 := zb.frozen 2)))
        | (go_at_call 96; refine (valueIs_any _ (HL.out.kept (gw.out.trans (by first | exact gg | exact gg.alloc _))) VL).mono ?_; rw [HV.out]; rintro e w5 ⟨rfl, f5⟩; (first | (replace gg := gg.trans f5; (try replace zb := zb.kept f5 (by simp))) | (obtain ⟨zb, gg', zl'⟩ := lkAllocdD gg f5; have zl : Hid (W0.heap.size ≤ _) := zl'; replace gg := gg') | (obtain ⟨zb, gg', zl'⟩ := lkAllocd gg f5; have zl : Hid (W0.heap.size ≤ _) := zl'; replace gg := gg')); (try (have z0 : World.cell? _ _ = some (.int .u8 0) := zb.cell 0; have z1 : World.cell? _ _ = some (.int .u8 0) := zb.cell 1; have z2 : World.cell? _ _ = some (.int .u8 0) := zb.cell 2; have z3 := zb.frozen 0; have z4 := zb.frozen 1; have z5 := zb.frozen 2)))
        | (go_at_call 97; refine (placeIs_any _ b off c t (HNd.out.kept (gw.out.trans (by first | exact gg | exact gg.alloc _)) (by simp)) p hPL.out).mono ?_; rw [HP.out]; rintro e w5 ⟨rfl, f5⟩; (first | (replace gg := gg.trans f5; (try replace zb := zb.kept f5 (by simp))) | (obtain ⟨zb, gg', zl'⟩ := lkAllocdD gg f5; have zl : Hid (W0.heap.size ≤ _) := zl'; replace gg := gg') | (obtain ⟨zb, gg', zl'⟩ := lkAllocd gg f5; have zl : Hid (W0.heap.size ≤ _) := zl'; replace gg := gg')); (try (have z0 : World.cell? _ _ = some (.int .u8 0) := zb.cell 0; have z1 : World.cell? _ _ = some (.int .u8 0) := zb.cell 1; have z2 : World.cell? _ _ = some (.int .u8 0) := zb.cell 2; have z3 := zb.frozen 0; have z4 := zb.frozen 1; have z5 := zb.frozen 2)))))
    all_goals go_wp2
    all_goals go_meet
    all_goals (have HW := HW0.out; subst HW)
    all_goals (first | exact ⟨_, rfl, heap_alloc_new _ _, gg.alloc _⟩ | exact ⟨_, rfl, zb.put3 _ _ _, gg.put3 zl.out _ _ _⟩)
  obtain ⟨g, rfl, hcg, f6⟩ := hcut
  have hcn6 := hcn.kept f6 (by simp)
  have f7 := fn.trans f6
  clear hcn fn
  go_wp2_with fail
  obtain ⟨W0, hW0⟩ : ∃ W0, W0 = wc := ⟨_, rfl⟩
  have gg : Fr [] W0 wc.drew := (by rw [hW0]; exact (Fr.refl _ _).drew)
  have gw : Hid (Fr [] w W0) := (by rw [hW0]; exact f7)
  have SK : Hid (∀ w', Fr [] W0 w' → ((w'.cell? ⟨g, 0, none⟩ = some (.int .u8 (N : Int)) ∧ w'.cell? ⟨g, 1, none⟩ = some (.int .u8 (V : Int)) ∧ w'.cell? ⟨g, 2, none⟩ = some (.int .u8 (Pl : Int))) ∧ w'.cell? ⟨gn, 0, none⟩ = some (.int .u8 (q : Int)))) := (by rw [hW0]; exact fun w' f => ⟨⟨(hcg.kept f (by simp)).cell 0, (hcg.kept f (by simp)).cell 1, (hcg.kept f (by simp)).cell 2⟩, (hcn6.kept f (by simp)).cell 0⟩)
  have HW0 : Hid (W0 = wc) := hW0
  clear hW0
  obtain ⟨A, hA⟩ : ∃ A, lkAnd (N, V, Pl) X = A := ⟨_, rfl⟩
  obtain ⟨A0, A1, A2⟩ := A
  have HA := Hid.mk hA
  replace HB : Hid ((decide ((A0, A1, A2) = (N, V, Pl)) && extraB t k q p) = B) := by
    have h := HB.out
    rw [hA] at h
    exact h
  by_cases hE : A0 = N ∧ A1 = V ∧ A2 = Pl
  · obtain ⟨rfl, rfl, rfl⟩ := hE
    clear hA
    go_region_held3 (fun w' => (w'.cell? ⟨g, 0, none⟩ = some (.int .u8 (A0 : Int)) ∧ w'.cell? ⟨g, 1, none⟩ = some (.int .u8 (A1 : Int)) ∧ w'.cell? ⟨g, 2, none⟩ = some (.int .u8 (A2 : Int))) ∧ w'.cell? ⟨gn, 0, none⟩ = some (.int .u8 (q : Int))) (exact SK.out _ gg)
      ((first
        | (go_at_call 99; refine (mayBe_any _ (HK.out.kept (gw.out.trans gg)) q hq256).mono ?_; rw [HX.out]; rintro e w5 ⟨rfl, f5⟩; replace gg := gg.trans f5)
        | (go_at_call 98; refine (lwithin_any _ (A0, A1, A2) X HOk.out.1 HOk.out.2).mono ?_; rw [HA.out]; unfold lkV lkC; simp only; rintro e w5 ⟨rfl, f5⟩; replace gg := gg.trans f5)))
    have HW := HW0.out
    subst HW
    have hcn7 := hcn6.kept gg (by simp)
    have n0 : World.cell? _ ⟨gn, 0, none⟩ = some (.int .u8 (q : Int)) := hcn7.cell 0
    have n3 : World.cell? _ ⟨gn, 3, none⟩ = some (.int .i64 p) := hcn7.cell 3
    have HE : Hid (extraB t k q p = B) := by
      have h : (decide True && extraB t k q p) = B := by simpa using HB.out
      exact (Bool.true_and _).symm.trans h
    have hw1 : IntKind.i64.wrap ((k : Int) - 1) = (k : Int) - 1 := wrapI (by omega) (by omega)
    clear HB hcn7 hcn6 hcg SK
    by_cases q1 : q = 1
    · subst q1
      have h : decide (k = 0) = B := HE.out
      subst h
      go_wp2
      go_ret
      exact ⟨congrArg (fun b => Ending.returned (Value.bool b)) (by rw [Bool.eq_iff_iff]; simp), gw.out.trans gg⟩
    · have q1b : ((q : Int) == 1) = false := by rw [beq_eq_false_iff_ne]; omega
      by_cases q3 : q = 3
      · subst q3
        obtain ⟨BS, HBS⟩ : ∃ BS, Hid ((decide (0 < k) && (decide (par t (k - 1) = par t k) && decide (knd t (k - 1) = 3))) = BS) := ⟨_, rfl⟩
        have h : (decide ((k : Int) - 1 = p) || besideB t k 3) = B := HE.out
        rw [show besideB t k 3 = BS from HBS.out] at h
        by_cases hkp : (k : Int) - 1 = p
        · rw [decide_eq_true hkp, Bool.true_or] at h
          subst h
          have e1 : ((k : Int) - 1 == p) = true := by rw [beq_iff_eq]; exact hkp
          clear hkp
          go_wp2
          go_ret
          exact ⟨rfl, gw.out.trans gg⟩
        · rw [decide_eq_false hkp, Bool.false_or] at h
          subst h
          have e1 : ((k : Int) - 1 == p) = false := by rw [beq_eq_false_iff_ne]; exact hkp
          clear hkp
          go_wp2_with (go_at_call 100; refine (isBeside_any _ b off c t (HNd.out.kept (gw.out.trans gg) (by simp)) k hk hl 3).mono ?_; rw [HBS.out]; rintro e w6 ⟨rfl, f6'⟩)
          go_ret
          exact ⟨rfl, (gw.out.trans gg).trans f6'⟩
      · have q3b : ((q : Int) == 3) = false := by rw [beq_eq_false_iff_ne]; omega
        by_cases q4 : q = 4
        · subst q4
          obtain ⟨BS, HBS⟩ : ∃ BS, Hid ((decide (0 < k) && (decide (par t (k - 1) = par t k) && decide (knd t (k - 1) = 4))) = BS) := ⟨_, rfl⟩
          have h : (!besideB t k 4) = B := HE.out
          rw [show besideB t k 4 = BS from HBS.out] at h
          subst h
          go_wp2_with (go_at_call 100; refine (isBeside_any _ b off c t (HNd.out.kept (gw.out.trans gg) (by simp)) k hk hl 4).mono ?_; rw [HBS.out]; rintro e w6 ⟨rfl, f6'⟩)
          go_ret
          exact ⟨rfl, (gw.out.trans gg).trans f6'⟩
        · have q4b : ((q : Int) == 4) = false := by rw [beq_eq_false_iff_ne]; omega
          have h : true = B := by
            have := HE.out
            unfold extraB at this
            rw [if_neg q1, if_neg q3, if_neg q4] at this
            exact this
          subst h
          go_wp2
          go_ret
          exact ⟨rfl, gw.out.trans gg⟩
  · have hB : B = false := by
      cases B with
      | false => rfl
      | true =>
        have h := HB.out
        rw [Bool.and_eq_true, decide_eq_true_eq, Prod.mk.injEq, Prod.mk.injEq] at h
        exact absurd h.1 hE
    subst hB
    by_cases e0 : A0 = N
    · by_cases e1 : A1 = V
      · have e2 : ¬ A2 = Pl := fun e2 => hE ⟨e0, e1, e2⟩
        have b0 : ((A0 : Int) == (N : Int)) = true := by rw [beq_iff_eq]; omega
        have b1 : ((A1 : Int) == (V : Int)) = true := by rw [beq_iff_eq]; omega
        have b2 : ((A2 : Int) == (Pl : Int)) = false := by rw [beq_eq_false_iff_ne]; omega
        clear hA hE e0 e1 e2
        go_region_held3 (fun w' => (w'.cell? ⟨g, 0, none⟩ = some (.int .u8 (N : Int)) ∧ w'.cell? ⟨g, 1, none⟩ = some (.int .u8 (V : Int)) ∧ w'.cell? ⟨g, 2, none⟩ = some (.int .u8 (Pl : Int))) ∧ w'.cell? ⟨gn, 0, none⟩ = some (.int .u8 (q : Int))) (exact SK.out _ gg)
          ((first
            | (go_at_call 99; refine (mayBe_any _ (HK.out.kept (gw.out.trans gg)) q hq256).mono ?_; rw [HX.out]; rintro e w5 ⟨rfl, f5⟩; replace gg := gg.trans f5)
            | (go_at_call 98; refine (lwithin_any _ (N, V, Pl) X HOk.out.1 HOk.out.2).mono ?_; rw [HA.out]; unfold lkV lkC; simp only; rintro e w5 ⟨rfl, f5⟩; replace gg := gg.trans f5)))
        go_wp2
        go_ret
        exact ⟨rfl, gw.out.trans gg⟩
      · have b0 : ((A0 : Int) == (N : Int)) = true := by rw [beq_iff_eq]; omega
        have b1 : ((A1 : Int) == (V : Int)) = false := by rw [beq_eq_false_iff_ne]; omega
        clear hA hE e0 e1
        go_region_held3 (fun w' => (w'.cell? ⟨g, 0, none⟩ = some (.int .u8 (N : Int)) ∧ w'.cell? ⟨g, 1, none⟩ = some (.int .u8 (V : Int)) ∧ w'.cell? ⟨g, 2, none⟩ = some (.int .u8 (Pl : Int))) ∧ w'.cell? ⟨gn, 0, none⟩ = some (.int .u8 (q : Int))) (exact SK.out _ gg)
          ((first
            | (go_at_call 99; refine (mayBe_any _ (HK.out.kept (gw.out.trans gg)) q hq256).mono ?_; rw [HX.out]; rintro e w5 ⟨rfl, f5⟩; replace gg := gg.trans f5)
            | (go_at_call 98; refine (lwithin_any _ (N, V, Pl) X HOk.out.1 HOk.out.2).mono ?_; rw [HA.out]; unfold lkV lkC; simp only; rintro e w5 ⟨rfl, f5⟩; replace gg := gg.trans f5)))
        go_wp2
        go_ret
        exact ⟨rfl, gw.out.trans gg⟩
    · have b0 : ((A0 : Int) == (N : Int)) = false := by rw [beq_eq_false_iff_ne]; omega
      clear hA hE e0
      go_region_held3 (fun w' => (w'.cell? ⟨g, 0, none⟩ = some (.int .u8 (N : Int)) ∧ w'.cell? ⟨g, 1, none⟩ = some (.int .u8 (V : Int)) ∧ w'.cell? ⟨g, 2, none⟩ = some (.int .u8 (Pl : Int))) ∧ w'.cell? ⟨gn, 0, none⟩ = some (.int .u8 (q : Int))) (exact SK.out _ gg)
        ((first
          | (go_at_call 99; refine (mayBe_any _ (HK.out.kept (gw.out.trans gg)) q hq256).mono ?_; rw [HX.out]; rintro e w5 ⟨rfl, f5⟩; replace gg := gg.trans f5)
          | (go_at_call 98; refine (lwithin_any _ (N, V, Pl) X HOk.out.1 HOk.out.2).mono ?_; rw [HA.out]; unfold lkV lkC; simp only; rintro e w5 ⟨rfl, f5⟩; replace gg := gg.trans f5)))
      go_wp2
      go_ret
      exact ⟨rfl, gw.out.trans gg⟩
end Go.Proofs.YtdfgmdddnehocabGreatDoor
