/-
  Whether a node fits.
-/
import Derived.Test.YtdfgmdddnehocabGreatDoorTBox
namespace Go.Proofs.YtdfgmdddnehocabGreatDoor
open Go.RowKit Go.Maps Go.Lib

def lkTab : List (Nat × Nat × Nat) := [(0, 0, 0), (1, 1, 1), (6, 1, 7), (6, 15, 4), (1, 14, 5), (1, 11, 7), (2, 7, 7)]
def lkAt (k : Nat) : Nat × Nat × Nat := lkTab.getD k (0, 0, 0)
/-- The table of kinds lies as the text lays it. -/
def Looks (w : World) : Prop := ∀ k, k < 7 → w.cell? ⟨1, k * 3, none⟩ = some (.int .u8 ((lkAt k).1 : Nat)) ∧ w.cell? ⟨1, k * 3 + 1, none⟩ = some (.int .u8 ((lkAt k).2.1 : Nat)) ∧ w.cell? ⟨1, k * 3 + 2, none⟩ = some (.int .u8 ((lkAt k).2.2 : Nat))
theorem Looks.kept {w w' : World} (h : Looks w) (f : Fr [] w w') : Looks w' := fun k hk =>
  ⟨cell_fr f (by simp) (h k hk).1, cell_fr f (by simp) (h k hk).2.1, cell_fr f (by simp) (h k hk).2.2⟩
def lkC (x : Nat × Nat × Nat) : Array Value := #[.int .u8 (x.1 : Int), .int .u8 (x.2.1 : Int), .int .u8 (x.2.2 : Int)]
abbrev lkV (x : Nat × Nat × Nat) : Value := .agg (lkC x)
theorem lkC_one (x : Nat × Nat × Nat) : (lkC x).all (·.oneCell') = true := by simp [lkC, Value.oneCell']
theorem infoL : (Tryz.prog.info? 189).map (·.size) = some 3 := by kernel_rfl
theorem zeroL (w : World) : (zeroValue 189).run Tryz.prog w = .ok (.agg #[.int .u8 0, .int .u8 0, .int .u8 0]) w := by kernel_rfl
theorem resL {fn : Func} {p : Tmp} (h : fn.results = #[.cell p 189]) (tmps : Array Value) (w : World) (g : Nat) (x : Nat × Nat × Nat) (hp : tmps.getD p undef = .pointer (some ⟨g, 0, none⟩)) (hg : Cells w g 189 (lkC x)) :
    (results fn tmps).run Tryz.prog w = .ok (lkV x) w := resC h tmps w g (lkC x) hp hg Tryz.underlying189 infoL

set_option maxHeartbeats 2000000 in
theorem mayBe_any (w : World) (h : Looks w) (k : Nat) (hk : k < 256) :
    Calls Tryz.prog 99 #[.int .u8 (k : Int)] w fun e w' => e = .returned (lkV (lkAt k)) ∧ Fr [] w w' := by
  by_cases h7 : k < 7
  · have hk7 : ¬ (7 : Int) ≤ (k : Int) := by omega
    have hk0 : (0 : Int) ≤ (k : Int) := by omega
    have hkl : (k : Int) < 7 := by omega
    have HK := Hid.mk h
    obtain ⟨X, hX⟩ : ∃ X, lkAt k = X := ⟨_, rfl⟩
    have HX := Hid.mk hX
    rw [hX]
    clear h hX
    go_enter Tryz.func99, Tryz.ntmps99
    go_wp2_with (first
      | (refine wp_alloc 189 rfl rfl _ zeroL _ rfl ?_; intro w2 g hg2 hc2 f2; obtain ⟨d0, d1, d2⟩ := HK.out.kept f2 k h7; rw [HX.out] at d0 d1 d2)
      | (refine wp_storeC 189 rfl _ _ rfl g _ (lkC X) rfl rfl hc2 infoL rfl (lkC_one _) ?_; intro w3 hc3 f3)
      | go_in)
    refine bodyPost_ret (resL Tryz.results99 _ _ g X rfl hc3) rfl ⟨rfl, f2.then f3 (fun i hi hm => by simp at hm; omega)⟩
  · have hk7 : (7 : Int) ≤ (k : Int) := by omega
    have e : lkAt k = (0, 0, 0) := by
      unfold lkAt
      rw [List.getD_eq_getElem?_getD, List.getElem?_eq_none (by show 7 ≤ k; omega)]
      rfl
    rw [e]
    clear h e
    go_enter Tryz.func99, Tryz.ntmps99
    go_wp2_with (first
      | (refine wp_alloc 189 rfl rfl _ zeroL _ rfl ?_; intro w2 g hg2 hc2 f2)
      | (refine wp_storeC 189 rfl _ _ rfl g _ (lkC (0, 0, 0)) rfl rfl hc2 infoL rfl (lkC_one _) ?_; intro w3 hc3 f3)
      | go_in)
    refine bodyPost_ret (resL Tryz.results99 _ _ g (0, 0, 0) rfl hc3) rfl ⟨rfl, f2.then f3 (fun i hi hm => by simp at hm; omega)⟩

theorem wrapI {v : Int} (h0 : -9223372036854775808 ≤ v) (h1 : v ≤ 9223372036854775807) : IntKind.i64.wrap v = v := by
  simp [IntKind.wrap, IntKind.bits, IntKind.signed]
  omega



def lkAnd (x y : Nat × Nat × Nat) : Nat × Nat × Nat := (x.1 &&& y.1, x.2.1 &&& y.2.1, x.2.2 &&& y.2.2)
abbrev lkOk (x : Nat × Nat × Nat) : Prop := x.1 < 256 ∧ x.2.1 < 256 ∧ x.2.2 < 256
set_option maxHeartbeats 2000000 in
theorem lwithin_any (w : World) (x y : Nat × Nat × Nat) (hx : lkOk x) (hy : lkOk y) :
    Calls Tryz.prog 98 #[lkV x, lkV y] w fun e w' => e = .returned (lkV (lkAnd x y)) ∧ Fr [] w w' := by
  obtain ⟨x0, x1, x2⟩ := x
  obtain ⟨y0, y1, y2⟩ := y
  obtain ⟨a0, a1, a2⟩ := hx
  obtain ⟨b0, b1, b2⟩ := hy
  simp only at a0 a1 a2 b0 b1 b2
  have n0 : bits .and .u8 (x0 : Int) (y0 : Int) = ((x0 &&& y0 : Nat) : Int) := u8_and_nat _ _ (by omega) (by omega)
  have n1 : bits .and .u8 (x1 : Int) (y1 : Int) = ((x1 &&& y1 : Nat) : Int) := u8_and_nat _ _ (by omega) (by omega)
  have n2 : bits .and .u8 (x2 : Int) (y2 : Int) = ((x2 &&& y2 : Nat) : Int) := u8_and_nat _ _ (by omega) (by omega)
  unfold lkAnd
  simp only
  unfold lkV lkC
  simp only
  go_enter Tryz.func98, Tryz.ntmps98
  go_wp2_with (first
    | (refine wp_box 189 rfl _ rfl (lkC (x0, x1, x2)) rfl ?_; intro w0 gx hgx hcx fx)
    | (refine wp_box 189 rfl _ rfl (lkC (y0, y1, y2)) rfl ?_; intro w1 gy hgy hcy fy)
    | (refine wp_alloc 189 rfl rfl _ zeroL _ rfl ?_; intro w2 g hg2 hc2 f2
       have p := hcx.kept (fy.trans f2) (by simp)
       have q := hcy.kept f2 (by simp)
       have p0 : w2.cell? ⟨gx, 0, none⟩ = some (.int .u8 (x0 : Int)) := p.cell 0
       have p1 : w2.cell? ⟨gx, 1, none⟩ = some (.int .u8 (x1 : Int)) := p.cell 1
       have p2 : w2.cell? ⟨gx, 2, none⟩ = some (.int .u8 (x2 : Int)) := p.cell 2
       have q0 : w2.cell? ⟨gy, 0, none⟩ = some (.int .u8 (y0 : Int)) := q.cell 0
       have q1 : w2.cell? ⟨gy, 1, none⟩ = some (.int .u8 (y1 : Int)) := q.cell 1
       have q2 : w2.cell? ⟨gy, 2, none⟩ = some (.int .u8 (y2 : Int)) := q.cell 2)
    | (refine wp_storeC 189 rfl _ _ rfl g _ (lkC (x0 &&& y0, x1 &&& y1, x2 &&& y2)) rfl rfl hc2 infoL rfl (lkC_one _) ?_; intro w3 hc3 f3)
    | go_in)
  have f4 := (fx.trans fy).trans f2
  refine bodyPost_ret (resL Tryz.results98 _ _ g (x0 &&& y0, x1 &&& y1, x2 &&& y2) rfl hc3) rfl ⟨rfl, f4.then f3 (fun i hi hm => by simp at hm; have := (fx.trans fy).size; omega)⟩

set_option maxHeartbeats 2000000 in
theorem isBeside_any (w : World) (b off c : Nat) (t : List Nd) (hN : NodesIn w b off t) (k : Nat) (hk : k < t.length) (hl : t.length ≤ 16384) (q : Nat) :
    Calls Tryz.prog 100 #[.slice (some ⟨b, off, none⟩) t.length c, .int .i64 (k : Int), .int .u8 (q : Int)] w fun e w' => e = .returned (.bool (decide (0 < k) && (decide (par t (k - 1) = par t k) && decide (knd t (k - 1) = q)))) ∧ Fr [] w w' := by
  have hk' : (k : Int) < (t.length : Int) := by omega
  have hk0 : (0 : Int) ≤ (k : Int) := by omega
  obtain ⟨c0, c1, c2, c3⟩ := hN k hk
  by_cases h0 : 0 < k
  · have h0' : (0 : Int) < (k : Int) := by omega
    obtain ⟨d0, d1, d2, d3⟩ := hN (k - 1) (by omega)
    rw [decide_eq_true h0, Bool.true_and]
    have hj1 : ((k : Int) - 1) < (t.length : Int) := by omega
    have hj0 : (0 : Int) ≤ (k : Int) - 1 := by omega
    have hj2 : ((k : Int) - 1).toNat = k - 1 := by omega
    generalize par t (k - 1) = A at d3 ⊢
    generalize par t k = B at c3 ⊢
    generalize knd t (k - 1) = C at d0 ⊢
    clear c0 c1 c2 d1 d2 hN
    have hw : IntKind.i64.wrap ((k : Int) - 1) = (k : Int) - 1 := wrapI (by omega) (by omega)
    by_cases hAB : A = B
    · have e1 : (A == B) = true := by rw [beq_iff_eq]; exact hAB
      by_cases hC : C = q
      · have e2 : ((C : Int) == (q : Int)) = true := by rw [beq_iff_eq]; omega
        rw [decide_eq_true hAB, decide_eq_true hC]
        clear hAB hC
        go_enter Tryz.func100, Tryz.ntmps100
        go_wp2_with fail
        go_quiet (fail)
        go_wp2
        go_ret
        exact ⟨rfl, (Fr.refl _ _).drewN _⟩
      · have e2 : ((C : Int) == (q : Int)) = false := by rw [beq_eq_false_iff_ne]; omega
        rw [decide_eq_true hAB, decide_eq_false hC]
        clear hAB hC
        go_enter Tryz.func100, Tryz.ntmps100
        go_wp2_with fail
        go_quiet (fail)
        go_wp2
        go_ret
        exact ⟨rfl, (Fr.refl _ _).drewN _⟩
    · have e1 : (A == B) = false := by rw [beq_eq_false_iff_ne]; exact hAB
      rw [decide_eq_false hAB]
      clear hAB
      go_enter Tryz.func100, Tryz.ntmps100
      go_wp2_with fail
      go_quiet (fail)
      go_wp2
      go_ret
      exact ⟨rfl, (Fr.refl _ _).drewN _⟩
  · have h0' : decide ((0 : Int) < (k : Int)) = false := decide_eq_false (by omega)
    rw [decide_eq_false h0]
    clear c0 c1 c2 c3 hN
    go_enter Tryz.func100, Tryz.ntmps100
    go_wp2_with fail
    go_quiet (fail)
    go_wp2
    go_ret
    exact ⟨rfl, (Fr.refl _ _).drewN _⟩
end Go.Proofs.YtdfgmdddnehocabGreatDoor
