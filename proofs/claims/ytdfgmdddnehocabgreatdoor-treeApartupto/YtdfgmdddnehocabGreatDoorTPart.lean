/-
  Part: a node's subtree as a row of its own.
-/
import Derived.Test.YtdfgmdddnehocabGreatDoorXLent
import Derived.Test.YtdfgmdddnehocabGreatDoorTCutM
import Derived.Test.YtdfgmdddnehocabGreatDoorXGo
namespace Go.Proofs.YtdfgmdddnehocabGreatDoor
open Go.RowKit Go.Maps Go.Lib

def setP (t : List Nd) (i : Nat) (p : Int) : List Nd := t.set i ⟨knd t i, nam t i, vlu t i, p⟩
theorem setP_len (t : List Nd) (i : Nat) (p : Int) : (setP t i p).length = t.length := by simp [setP]
theorem setP_nth (t : List Nd) (i j : Nat) (p : Int) (h : i < t.length) : nth (setP t i p) j = if i = j then ⟨knd t i, nam t i, vlu t i, p⟩ else nth t j := by
  unfold nth setP
  by_cases e : i = j
  · subst e
    simp [h]
  · simp [List.getD_eq_getElem?_getD, e]
theorem setP_row (t : List Nd) (i : Nat) (p : Int) (h : i < t.length) : rowL (setP t i p) = (rowL t).set (i * 4 + 3) (.int .i64 p) := by
  refine List.ext_getElem? fun j => ?_
  by_cases hj : j < t.length * 4
  · have e : j = j / 4 * 4 + j % 4 := by omega
    have hq : j / 4 < t.length := by omega
    rw [List.getElem?_set, rowL_len]
    rw [e, rowL_at (setP t i p) (j / 4) (j % 4) (by omega) (by rw [setP_len]; exact hq), rowL_at t (j / 4) (j % 4) (by omega) hq, setP_nth _ _ _ _ h]
    by_cases hi : i = j / 4
    · rw [if_pos hi]
      subst hi
      have h4 : j % 4 = 0 ∨ j % 4 = 1 ∨ j % 4 = 2 ∨ j % 4 = 3 := by omega
      rcases h4 with r | r | r | r <;> rw [r]
      · rw [if_neg (by omega)]; rfl
      · rw [if_neg (by omega)]; rfl
      · rw [if_neg (by omega)]; rfl
      · rw [if_pos rfl, if_pos (by omega)]; rfl
    · rw [if_neg hi, if_neg (by omega)]
  · rw [List.getElem?_eq_none (by rw [rowL_len, setP_len]; omega), List.getElem?_eq_none (by rw [List.length_set, rowL_len]; omega)]
theorem Nodes.setPar {w0 w : World} {g n cap : Nat} {t : List Nd} (h : Nodes w0 w (.slice (some ⟨g, 0, none⟩) n cap) t) (i : Nat) (hi : i < t.length) (p : Int) :
    Nodes w0 (w.setCell ⟨g, i * 4 + 3, none⟩ (.int .i64 p)) (.slice (some ⟨g, 0, none⟩) n cap) (setP t i p) := by
  obtain ⟨h1, h2⟩ := h
  refine ⟨by rw [rowL_len], ?_⟩
  rcases h2 with ⟨e, hn⟩ | ⟨g', cap', cur, e, hb, hg, hnc, hcm, hcs, ht⟩
  · cases e
  · cases e
    rw [setP_len]
    refine Or.inr ⟨g, cap, cur.setIfInBounds (i * 4 + 3) (.int .i64 p), rfl, hb, heap_setCell_same w g _ _ _ _ hg, hnc, hcm, by simpa using hcs, ?_⟩
    rw [setP_row t i p hi, ← ht, Array.toList_setIfInBounds, List.take_set]
theorem Nodes.blk {w0 w : World} {g n cap : Nat} {t : List Nd} (h : Nodes w0 w (.slice (some ⟨g, 0, none⟩) n cap) t) : w0.heap.size ≤ g ∧ g < w.heap.size ∧ NodesIn w g 0 t ∧ (∀ j, w.frozen? ⟨g, j, none⟩ = false) := by
  rcases h.2 with ⟨e, hn⟩ | ⟨g', cap', cur, e, hb, hg, hnc, hcm, hcs, ht⟩
  · cases e
  · cases e
    exact ⟨hb, (Array.getElem?_eq_some_iff.1 hg).1, nodes_of_cells hg ht, fun j => frozen_of_row w g j _ _ hg⟩
theorem nodes_made {w0 w : World} (f : Fr [] w0 w) : Nodes w0 (w.alloc (.cells #[] 62)) (.slice (some ⟨w.heap.size, 0, none⟩) 0 0) [] :=
  Nodes.new w f.size [] 0 rfl (by unfold maxLen; omega) #[] rfl
/-- some nodes of a row. -/
def midL (t : List Nd) (k n : Nat) : List Nd := (List.range n).map fun j => nth t (k + j)
theorem mid_len' (t : List Nd) (k n : Nat) : (midL t k n).length = n := by simp [midL]
theorem mid_nth {t : List Nd} {k n j : Nat} (h : j < n) : nth (midL t k n) j = nth t (k + j) := by
  unfold midL
  rw [nth_lt (by simpa using h)]
  simp
theorem NodesIn.mid {w : World} {b off : Nat} {t : List Nd} (h : NodesIn w b off t) (k n : Nat) (hk : k + n ≤ t.length) : NodesIn w b (off + k * 4) (midL t k n) := by
  intro i hi
  rw [mid_len'] at hi
  have := h (k + i) (by omega)
  unfold knd nam vlu par at this ⊢
  rw [mid_nth hi, show off + k * 4 + i * 4 = off + (k + i) * 4 by omega]
  exact this
set_option maxHeartbeats 2000000 in
set_option maxRecDepth 100000 in
theorem clone_any (w : World) (b off c n : Nat) (t : List Nd) (hn : t.length = n) (h0 : 0 < n) (hl : n ≤ 16384) (hI : NodesIn w b off t) :
    Calls Tryz.prog 19 #[.slice (some ⟨b, off, none⟩) n c] w fun e w' => ∃ g cap, e = .returned (.slice (some ⟨g, 0, none⟩) n cap) ∧ Nodes w w' (.slice (some ⟨g, 0, none⟩) n cap) t ∧ Fr [] w w' := by
  have HI := Hid.mk (hI.kept ((Fr.refl [] w).alloc (.cells #[] 62)) (by simp))
  have HN := Hid.mk hn
  have q22 : ∀ w : World, (binOp .eql 22 (.slice (some ⟨b, off, none⟩) n c) (.slice none 0 0)).run Tryz.prog w = .ok (.bool false) w := fun w => Lib.run_eql_slice_nil w _ _ (some ⟨b, off, none⟩) n c 0 0 Tryz.underlying22
  clear hI
  go_enter Tryz.func19, Tryz.ntmps19
  go_wp2_with (first
    | (refine wp_appN rfl _ _ rfl w _ [] rfl (nodes_made (Fr.refl [] w)) ((Fr.refl [] w).alloc _).size b off c n t HN.out h0 rfl HI.out (by simp; omega) ((Fr.refl [] w).alloc _) ?_; intro v5 w5 o5 f5)
    | go_in)
  go_ret
  rw [List.nil_append] at o5
  obtain ⟨ad, cap, rfl, hc, _, hx⟩ := o5.shape
  rw [HN.out] at o5 ⊢
  rcases hx with rfl | ⟨g, rfl, _⟩
  · rcases o5.2 with ⟨e, hz⟩ | ⟨g, cap', cur, e, _⟩
    · rw [HN.out] at hz; omega
    · cases e
  · exact ⟨g, cap, rfl, o5, f5⟩
/-- How far Part has come. -/
def pstep (t : List Nd) (m n i : Nat) : List Nd := (List.range n).map fun j => if j < i then partNd t m j else nth t (m + j)
theorem pstep_len (t : List Nd) (m n i : Nat) : (pstep t m n i).length = n := by simp [pstep]
theorem pstep_nth {t : List Nd} {m n i j : Nat} (h : j < n) : nth (pstep t m n i) j = if j < i then partNd t m j else nth t (m + j) := by
  unfold pstep
  rw [nth_lt (by simpa using h)]
  simp
theorem nth_ext {a b : List Nd} (hl : a.length = b.length) (h : ∀ j, j < a.length → nth a j = nth b j) : a = b := by
  refine List.ext_getElem hl fun j h1 h2 => ?_
  have := h j h1
  rwa [nth_lt h1, nth_lt h2] at this
theorem pstep_set {t : List Nd} {m n i : Nat} (hi : i < n) : setP (pstep t m n i) i (if i = 0 then -1 else par t (m + i) - (m : Int)) = pstep t m n (i + 1) := by
  refine nth_ext (by rw [setP_len, pstep_len, pstep_len]) fun j hj => ?_
  rw [setP_len, pstep_len] at hj
  rw [setP_nth _ _ _ _ (by rw [pstep_len]; exact hi), pstep_nth (i := i + 1) hj]
  by_cases e : i = j
  · subst e
    unfold knd nam vlu
    rw [if_pos rfl, if_pos (Nat.lt_succ_self i), pstep_nth hi, if_neg (Nat.lt_irrefl i)]
    rfl
  · rw [if_neg e, pstep_nth hj]
    by_cases h2 : j < i
    · rw [if_pos h2, if_pos (by omega)]
    · rw [if_neg h2, if_neg (by omega)]
theorem pstep_zero (t : List Nd) (m n : Nat) : pstep t m n 0 = midL t m n := by
  unfold pstep midL
  simp
theorem pstep_all (t : List Nd) (m : Nat) : pstep t m (endOf t m - m) (endOf t m - m) = partL t m := by
  unfold pstep partL
  refine List.map_congr_left fun j hj => ?_
  rw [if_pos (by simpa using hj)]
theorem pstep_par {t : List Nd} {m n i : Nat} (hi : i < n) : par (pstep t m n i) i = par t (m + i) := by
  unfold par
  rw [pstep_nth hi, if_neg (by omega)]
def partS (t : List Nd) (k : Int) : List Nd := if hasB t k = true then partL t k.toNat else []
set_option maxHeartbeats 8000000 in
set_option maxRecDepth 100000 in
theorem Part_any (w : World) (L : LaidW w) (ad : Option Addr) (c n : Nat) (t : List Nd) (hn : t.length = n) (hc : n ≤ c) (hN : NodesAt w ad t) (hS : Sane t) (k : Int) :
    Calls Tryz.prog 7 #[.slice ad n c, .int .i64 k] w fun e w' => (∃ v, e = .returned v ∧ Nodes w w' v (partS t k)) ∧ Fr [] w w' := by
  have cH := Hid.mk (has_any w L ad c n t hn hN hS k)
  unfold partS
  cases hh : hasB t k with
  | false =>
    rw [hh] at cH
    rw [if_neg (by decide)]
    clear hN hS L hh
    go_enter Tryz.func7, Tryz.ntmps7
    go_wp2_with (go_at_call 18; refine cH.out.mono ?_; rintro e w5 ⟨rfl, f5⟩)
    go_ret
    exact ⟨⟨_, rfl, World.ownsRow_nil _ _ _ _⟩, f5⟩
  | true =>
    rw [hh] at cH
    rw [if_pos rfl]
    unfold hasB at hh
    rw [Bool.and_eq_true, decide_eq_true_eq] at hh
    obtain ⟨m, rfl⟩ : ∃ m : Nat, k = (m : Int) := ⟨k.toNat, by omega⟩
    subst hn
    have hl := ok_len hh.2
    have HG := Hid.mk (ok_good hh.2)
    obtain ⟨b, off, rfl, hI⟩ := hN.in (by omega)
    have HI := Hid.mk hI
    rw [Int.toNat_natCast]
    have hm : m < t.length := by omega
    have hm' : (m : Int) < (t.length : Int) := by omega
    have hm0 : (0 : Int) ≤ (m : Int) := by omega
    obtain ⟨E, hE⟩ : ∃ E, endOf t m = E := ⟨_, rfl⟩
    have hEl : E ≤ t.length := by rw [← hE]; exact end_len t m hm
    have hEg : m < E := by rw [← hE]; have := (endOf_is (t := t) (k := (m : Int)) (by omega) (by omega)).gt; omega
    have HE := Hid.mk hE
    have HPA := Hid.mk (pstep_all t m)
    rw [hE] at HPA
    obtain ⟨N, hNN⟩ : ∃ N, N = E - m := ⟨_, rfl⟩
    rw [← hNN] at HPA
    have HNN := Hid.mk hNN
    have hN0 : 0 < N := by omega
    have hNl : N ≤ 16384 := by omega
    have hN1 : (N : Int) ≤ 16384 := by omega
    have hNI : (E : Int) - (m : Int) = (N : Int) := by omega
    have HC := Hid.mk (fun w' (f : Fr [] w w') => clone_any w' b (off + m * 4) (c - m) N (midL t m N) (mid_len' _ _ _) hN0 hNl ((hI.kept f (by simp)).mid m N (by omega)))
    clear hN hS L hh hI hE hNN
    go_enter Tryz.func7, Tryz.ntmps7
    go_wp2_with (first
      | (go_at_call 18; refine cH.out.mono ?_; rintro e w5 ⟨rfl, f5⟩)
      | (go_at_call 20; refine (end_any _ b off c t (HI.out.kept f5 (by simp)) hl m hm).mono ?_; rw [HE.out]; rintro e w6 ⟨rfl, f6⟩))
    rw [← HNN.out]
    refine (HC.out _ (f5.trans f6)).mono ?_
    rintro e w7 ⟨g, cap, rfl, o7, f7⟩
    have F7 := Hid.mk ((f5.trans f6).trans f7)
    rw [← pstep_zero] at o7
    obtain ⟨q1, q2, q3, q4⟩ := o7.blk
    obtain ⟨d0, d1, d2, d3⟩ := q3 0 (by rw [pstep_len]; exact hN0)
    have z3 := q4 3
    have O8 := o7.setPar 0 (by rw [pstep_len]; exact hN0) (-1)
    have e8 := pstep_set (t := t) (m := m) (n := N) (i := 0) hN0
    rw [if_pos rfl] at e8
    rw [e8] at O8
    have hgw : w.heap.size ≤ g := by have := (f5.trans f6).size; omega
    have F8 := Hid.mk (F7.out.setCell ⟨g, 3, none⟩ (.int .i64 (-1)) (fun h => by simp at h; omega))
    have O8' := Hid.mk (O8.from (f5.trans f6))
    clear O8 e8 o7 f5 f6 f7 q3 q4 q1
    rw [Nat.zero_mul, Nat.add_zero] at d3
    clear d0 d1 d2
    go_wp2_with fail
    go_loopw [6] (fun s6 wr => ∃ i : Nat, s6 = .int .i64 (i : Int) ∧ 1 ≤ i ∧ i ≤ N ∧ Hid (Nodes w wr (.slice (some ⟨g, 0, none⟩) N cap) (pstep t m N i)) ∧ Hid (Fr [] w wr)) (fun s6 _ => N - (RowKit.intOf s6).toNat)
    case atStart => exact ⟨1, rfl, by omega, by omega, O8', F8⟩
    case round =>
      obtain ⟨i, rfl, hi1, hiN, hO, hF⟩ := hrel
      have hi0 : (0 : Int) ≤ (i : Int) := by omega
      by_cases hlt : i < N
      · have hlt' : (i : Int) < (N : Int) := by omega
        obtain ⟨q1, q2, q3, q4⟩ := hO.out.blk
        obtain ⟨d0, d1, d2, d3⟩ := q3 i (by rw [pstep_len]; exact hlt)
        have z3 := q4 (i * 4 + 3)
        rw [pstep_par hlt] at d3
        have o := HG.out.ords (m + i) (by have := HNN.out; omega)
        have E2 := endOf_is (t := t) (k := (m : Int)) (by omega) (by omega)
        have hp1 : (m : Int) ≤ par t (m + i) := E2.all (m + i) (by omega) (by have := HE.out; have := HNN.out; omega)
        have hp2 : par t (m + i) < 16384 := by have := o.2.1; omega
        have O9 := hO.out.setPar i (by rw [pstep_len]; exact hlt) (par t (m + i) - (m : Int))
        have e9 := pstep_set (t := t) (m := m) (n := N) (i := i) hlt
        rw [if_neg (by omega)] at e9
        rw [e9] at O9
        have F9 := Hid.mk (hF.out.setCell ⟨g, i * 4 + 3, none⟩ (.int .i64 (par t (m + i) - (m : Int))) (fun h => by simp at h; omega))
        have O9' := Hid.mk O9
        rw [Nat.zero_add] at d3
        clear d0 d1 d2 q3 q4 O9 e9 o E2
        generalize par t (m + i) = p at d3 hp1 hp2 F9 O9'
        have hwp : IntKind.i64.wrap (p - (m : Int)) = p - (m : Int) := by simp [IntKind.wrap, IntKind.bits, IntKind.signed]; omega
        go_wp2_with fail
        exact ⟨⟨i + 1, by go_num, by omega, by omega, O9', F9⟩, by simp [RowKit.intOf]; omega⟩
      · obtain rfl : i = N := by omega
        have hlt' : ¬ (i : Int) < (i : Int) := by omega
        go_wp2_with fail
        go_ret
        exact ⟨⟨_, rfl, by rw [← HPA.out]; exact hO.out⟩, hF.out⟩
end Go.Proofs.YtdfgmdddnehocabGreatDoor
