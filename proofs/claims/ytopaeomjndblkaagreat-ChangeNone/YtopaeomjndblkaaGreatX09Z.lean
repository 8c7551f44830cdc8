/-
  A log's record read again: Read, wherever the record stands.
-/
import Derived.Test.YtopaeomjndblkaaGreatX08Z
import Derived.Test.YtopaeomjndblkaaGreatX05Z
namespace Go.Proofs.YtopaeomjndblkaaGreat
open Go.RowKit Go.Maps

section
variable {ops : Array Oper} {rest : List Oper} {o : Oper} {a : Act} {w : World} {Q : Exit → Act → World → Prop}
/-- append of numbers to a row of numbers. -/
theorem wp_appLL (hgd : o.guard = none) (s x : Operand) (ho : o.op = .call { callee := .builtin .append, args := #[s, x], argTypes := #[221, 221] }) (ad : Option Addr) (n c : Nat) (ls : List Int) (g2 o2 m c2 : Nat) (l2 : List Int) (hs : a.eval s = .slice ad n c) (hx : a.eval x = .slice (some ⟨g2, o2, none⟩) m c2)
    (hown : LsAt w ad n c ls) (hl2 : l2.length = m) (hb : ∀ j v, l2[j]? = some v → w.cell? ⟨g2, o2 + j, none⟩ = some (.int .i64 v)) (hm : n + m ≤ 1000000) (hne : ad ≠ none)
    (h : ∀ g c' w', LsAt w' (some ⟨g, 0, none⟩) (n + m) c' (ls ++ l2) → Fr (Value.ownBlock (.slice ad n c)).toList w w' → NewOr ad n c g w.heap.size → wpList Tryz.prog ops Q rest (a.put o.dst (.slice (some ⟨g, 0, none⟩) (n + m) c')) w') : wpList Tryz.prog ops Q (o :: rest) a w :=
  wpList_plain hgd fun K hK => by
    obtain ⟨i, hi, hz, hsz, hbb⟩ := info2'
    obtain ⟨v', w', hrun, h2, h3, h4, h5⟩ := run_append_own_at (P := Tryz.prog) w 0 221 o.type 2 i (.int .i64 0) 1 8 Tryz.underlying221 hi hz hsz hbb rfl (by omega) _ n (lsV ls) hown ⟨g2, o2, none⟩ m c2 (lsV l2) (by simp [lsV, hl2])
      (by
        intro j x hx
        unfold lsV at hx
        rw [List.getElem?_map] at hx
        cases hj : l2[j]? with
        | none => rw [hj] at hx; cases hx
        | some v =>
          rw [hj] at hx
          cases hx
          rw [Addr.add_mid]
          exact hb j v hj) (by intro x hx; unfold lsV at hx; obtain ⟨v, _, rfl⟩ := List.mem_map.1 hx; rfl) (by unfold maxLen; omega) (by omega) (Nat.zero_le _)
    rcases h2.2 with ⟨e, hn0⟩ | ⟨g, c', cur, e, r⟩
    · exfalso
      have h6 := h4.1 e
      cases h6.1
      exact hne rfl
    · subst e
      have h2' : LsAt w' (some ⟨g, 0, none⟩) (n + m) c' (ls ++ l2) := by
        unfold LsAt lsV
        rw [List.map_append]
        exact h2
      unfold Oper.wp execOp
      simp [ho, resolve, invoke, builtin, hs, hx, hrun, Result.andThen]
      exact hK _ _ (h _ _ _ h2' ((Fr.refl _ _).grown h3 (fun j e _ => by simp [e])) (new_of h5))
end
theorem ls_made (w : World) : LsAt (w.alloc (.cells #[] 2)) (some ⟨w.heap.size, 0, none⟩) 0 0 [] := ⟨by simp [lsV], Or.inr ⟨w.heap.size, 0, #[], rfl, Nat.zero_le _, heap_alloc_new w _, Nat.le_refl _, by unfold maxLen; omega, rfl, by simp [lsV]⟩⟩
set_option maxHeartbeats 1000000 in
set_option maxRecDepth 100000 in
theorem lclone_any (w : World) (ad : Option Addr) (m c : Nat) (l2 : List Int) (hl : l2.length = m) (hm : m ≤ 900000) (hn : ad = none → m = 0 ∧ c = 0) (ha : ∀ x, ad = some x → ∃ g o, x = ⟨g, o, none⟩ ∧ ∀ j v, l2[j]? = some v → w.cell? ⟨g, o + j, none⟩ = some (.int .i64 v)) :
    Calls Tryz.prog 204 #[.slice ad m c] w fun e w' => ∃ ad' c', e = .returned (.slice ad' m c') ∧ LsAt w' ad' m c' l2 ∧ (∀ g ∈ (Value.ownBlock (.slice ad' m c')).toList, w.heap.size ≤ g) ∧ Fr [] w w' := by
  cases ad with
  | none =>
    obtain ⟨rfl, rfl⟩ := hn rfl
    have q22 : ∀ w : World, (binOp .eql 221 (.slice none 0 0) (.slice none 0 0)).run Tryz.prog w = .ok (.bool true) w := fun w => Lib.run_eql_slice_nil w _ _ none 0 0 0 0 Tryz.underlying221
    have hl0 : l2 = [] := List.eq_nil_of_length_eq_zero hl
    subst hl0
    go_enter Tryz.func204, Tryz.ntmps204
    go_wp2
    go_ret
    exact ⟨none, 0, rfl, LsAt.nil w, fun g hg => (nomatch hg), Fr.refl _ _⟩
  | some x =>
    obtain ⟨g, o, rfl, hc⟩ := ha x rfl
    have q22 : ∀ w : World, (binOp .eql 221 (.slice (some ⟨g, o, none⟩) m c) (.slice none 0 0)).run Tryz.prog w = .ok (.bool false) w := fun w => Lib.run_eql_slice_nil w _ _ (some ⟨g, o, none⟩) m c 0 0 Tryz.underlying221
    have fa : Fr [] w (w.alloc (.cells #[] 2)) := (Fr.refl [] w).alloc _
    have HC : Hid (∀ j v, l2[j]? = some v → (w.alloc (.cells #[] 2)).cell? ⟨g, o + j, none⟩ = some (.int .i64 v)) := hidI (fun j v hj => by
      have h1 := hc j v hj
      rw [← h1]
      exact World.cell?_of_block (fa.block g (block_lt_of_cell h1) (by simp)))
    have HL := hidI hl
    clear hc hl ha hn
    go_enter Tryz.func204, Tryz.ntmps204
    go_wp2_with (first
      | (refine wp_appLL rfl _ _ rfl (some ⟨w.heap.size, 0, none⟩) 0 0 [] g o m c l2 rfl rfl (ls_made w) HL.out HC.out (by omega) (by simp) ?_; intro g5 c5 w5 l5 f5 n5)
      | go_in)
    go_ret
    rw [List.nil_append, Nat.zero_add] at l5
    refine ⟨some ⟨g5, 0, none⟩, c5, rfl, l5, ?_, fa.then f5 (fun i hi hm => ?_)⟩
    · intro k hk
      simp [Value.ownBlock] at hk
      subst hk
      rcases n5 with h1 | h1
      · simp [Value.ownBlock] at h1
        omega
      · simp at h1
        omega
    · simp [Value.ownBlock] at hm
      omega
/-- What a log is behind Trim. -/
structure Trimd (y y' : Lo) (a : Nat) : Prop where
  d : y'.d = y.d
  bs : y'.bs = y.bs
  bo : y'.bo = y.bo
  nb : y'.nb = y.nb
  S : y'.S = y.S
  O : y'.O = y.O
  p : y'.p = y.p
  first : y'.first = y.first
  count : y'.count = y.count
  T : y'.T = y.T
  A : y'.A = a
  P : y'.P = y.P
  E : y'.E = y.E
  lw : y'.lw = y.lw
  F : y'.F = min a y.P
  lb : y'.lb = y.lb.drop (min a y.P - y.F)
theorem LsAt.src {w : World} {ad : Option Addr} {n c : Nat} {ls : List Int} (h : LsAt w ad n c ls) (hl : ls.length = n) : (ad = none → n = 0 ∧ c = 0) ∧ (∀ x, ad = some x → ∃ g, x = ⟨g, 0, none⟩ ∧ n ≤ c ∧ ∀ j v, ls[j]? = some v → w.cell? ⟨g, j, none⟩ = some (.int .i64 v)) := by
  rcases h.2 with ⟨e, hn⟩ | ⟨g, c', cur, e, hb, hg, hnc, hcm, hcs, ht⟩
  · cases e
    exact ⟨fun _ => ⟨hn, rfl⟩, fun x hx => (nomatch hx)⟩
  · cases e
    refine ⟨fun e => (nomatch e), fun x hx => ?_⟩
    cases hx
    refine ⟨g, rfl, hnc, fun j v hj => ?_⟩
    have hj' : j < ls.length := (List.getElem?_eq_some_iff.1 hj).1
    rw [cell_of_row w g j _ _ _ hg]
    have h1 : (cur.toList.take (n * 1))[j]? = some (Value.int .i64 v) := by
      rw [ht]
      unfold lsV
      rw [List.getElem?_map, hj]
      rfl
    rw [List.getElem?_take, if_pos (by omega)] at h1
    simpa using h1
set_option maxHeartbeats 1000000 in
set_option maxRecDepth 100000 in
theorem lo_trim {w : World} {y : Lo} (h : LoAt w y) (hls : y.ls.length = y.n2) (a : Nat) (h0 : y.A ≤ a) (h1 : a ≤ y.E) (hok : ∀ i, BinAt y.ls ((a : Int) + 1) i → y.ls[i]? = some ((a : Int) + 1) ∨ a = y.E) :
    Calls Tryz.prog 119 #[.pointer (some ⟨y.p, 0, none⟩), .int .i64 ((a : Int) + 1)] w fun e w' => e = .returned (.int .i64 0) ∧ ∃ y' i, LoAt w' y' ∧ Trimd y y' a ∧ BinAt y.ls ((a : Int) + 1) i ∧ y'.ls = y.ls.drop i ∧ y'.n2 = y.n2 - i ∧ (∀ k ∈ y'.own, k ∈ y.own ∨ w.heap.size ≤ k) ∧ Fr [y.p] w w' := by
  have hEE := h.hE
  have h22 := h.h2
  have c0 : w.cell? ⟨y.p, 0, none⟩ = some (.pointer (some ⟨y.d, 0, none⟩)) := h.box.c0
  have c9 : w.cell? ⟨y.p, 9, none⟩ = some (.slice y.a2 y.n2 y.c2) := h.box.c9
  have c6 : w.cell? ⟨y.p, 6, none⟩ = some (.int .i64 ((y.E : Int) + 1)) := h.box.c6
  have c4 : w.cell? ⟨y.p, 4, none⟩ = some (.int .i64 ((y.A : Int) + 1)) := h.box.c4
  have z4 := h.box.fz 4
  have HH := hidI h
  obtain ⟨s1, s2⟩ := h.lsA.src hls
  have HS1 := hidI s1
  have HS2 := hidI s2
  have HOK := hidI hok
  clear h hok s1 s2
  go_enter Tryz.func119, Tryz.ntmps119
  go_wp2_with (go_at_call 177; refine (lmade_yes _ _ _ c0).mono ?_; rintro e w ⟨rfl, rfl⟩)
  refine (bin_any w y.a2 y.n2 y.c2 y.ls ((a : Int) + 1) hls (by omega) (fun j v hj => ?_)).mono ?_
  · cases ha : y.a2 with
    | none =>
      have := (HS1.out ha).1
      have := (List.getElem?_eq_some_iff.1 hj).1
      omega
    | some x =>
      obtain ⟨g, rfl, _, hc⟩ := HS2.out x ha
      exact ⟨g, rfl, hc j v hj⟩
  rintro e w2 ⟨i, rfl, rfl, hbin⟩
  have hile : i ≤ y.n2 := by rw [← hls]; exact hbin.le
  have hx4 := HH.out.box.s4 ((a : Int) + 1)
  have f4 := fr_set w2 y.p 4 (.int .i64 ((a : Int) + 1))
  have hx4' : LBox (w2.setCell ⟨y.p, 4, none⟩ (.int .i64 ((a : Int) + 1))) y.p ⟨.pointer (some ⟨y.d, 0, none⟩), y.first, y.count, (y.T : Int), (a : Int) + 1, (y.P : Int) + 1, (y.E : Int) + 1, .slice y.ad y.n y.cb, (y.F : Int) + 1, .slice y.a2 y.n2 y.c2⟩ := hx4
  have k9 : (w2.setCell ⟨y.p, 4, none⟩ (.int .i64 ((a : Int) + 1))).cell? ⟨y.p, 9, none⟩ = some (.slice y.a2 y.n2 y.c2) := hx4'.c9
  have HX4 := hidI hx4'
  have HB := hidI hbin
  clear hx4 hx4' hbin
  have q0 : (0 : Int) ≤ (i : Int) := by omega
  have q1 : (i : Int) ≤ (y.n2 : Int) := by omega
  have HCL : Hid (∀ (ad' : Option Addr) (m c' : Nat), m = y.n2 - i → (ad' = none → m = 0 ∧ c' = 0) → (∀ x, ad' = some x → ∃ g o, x = ⟨g, o, none⟩ ∧ ∀ j v, (y.ls.drop i)[j]? = some v → (w2.setCell ⟨y.p, 4, none⟩ (.int .i64 ((a : Int) + 1))).cell? ⟨g, o + j, none⟩ = some (.int .i64 v)) → Calls Tryz.prog 204 #[.slice ad' m c'] (w2.setCell ⟨y.p, 4, none⟩ (.int .i64 ((a : Int) + 1))) fun e w' => ∃ a5 c5, e = .returned (.slice a5 m c5) ∧ LsAt w' a5 m c5 (y.ls.drop i) ∧ (∀ g ∈ (Value.ownBlock (.slice a5 m c5)).toList, (w2.setCell ⟨y.p, 4, none⟩ (.int .i64 ((a : Int) + 1))).heap.size ≤ g) ∧ Fr [] (w2.setCell ⟨y.p, 4, none⟩ (.int .i64 ((a : Int) + 1))) w') := hidI (fun ad' m c' hm h3 h4 => lclone_any _ ad' m c' (y.ls.drop i) (by rw [List.length_drop, hls, hm]) (by omega) h3 h4)
  by_cases hdt : y.ls[i]? = some ((a : Int) + 1)
  · rw [decide_eq_true hdt]
    clear hdt
    cases ha : y.a2 with
    | none =>
      obtain ⟨e1, e2⟩ := HS1.out ha
      have hi0 : i = 0 := by omega
      subst hi0
      rw [ha, e1, e2] at k9 c9
      go_wp2_with fail
      all_goals
        refine (HCL.out _ 0 _ (by omega) ?_ ?_).mono ?_
        · exact fun _ => ⟨rfl, rfl⟩
        · exact fun x hx => nomatch hx
        rintro e w5 ⟨a5, c5, rfl, l5, n5, f5⟩
        have hx5 := HX4.out.kept f5 (by simp)
        have z9 := hx5.fz 9
        have k5 : w5.cell? ⟨y.p, 9, none⟩ = some (.slice y.a2 y.n2 y.c2) := hx5.c9
        have hx6 := hx5.s9 (.slice a5 0 c5)
        have f6 := fr_set w5 y.p 9 (.slice a5 0 c5)
        have l6 := own0_kept l5 f6 (lbox_type hx5 2 (by decide))
        have F6 := hidI ((f4.trans (f5.mono (fun _ _ e => nomatch e))).trans f6)
        have B6 := hidI (own0_kept (own0_kept (own0_kept HH.out.bsA f4 (lbox_type HH.out.box 5 (by decide))) f5 (fun g' hg' => nomatch hg')) f6 (lbox_type hx5 5 (by decide)))
        have L6 := hidI l6
        have N5 := hidI n5
        have HX6 := hidI hx6
        rw [ha, e1, e2] at k5
        clear hx5 hx6 l6 l5 n5 f5
        go_wp2_with fail
        refine (letGo_any _ y.p (.pointer (some ⟨y.d, 0, none⟩)) y.first y.count (y.T : Int) a y.P y.E y.F (min a y.P) y.n y.cb y.ad (.slice a5 0 c5) y.lb HX6.out B6.out HH.out.lbl (by have := HH.out.hn; omega) rfl (by have := HH.out.hFA; have := HH.out.hFP; omega) (by have := HH.out.hn; omega) (by omega)).mono ?_
        rintro e w7 ⟨rfl, a7, c7, LB, BB, NW, f7⟩
        go_wp2_with fail
        go_ret
        have hnn := HH.out.ne
        have F67 := (F6.out.trans f7)
        refine ⟨rfl, { y with A := a, F := min a y.P, n := y.n - (min a y.P - y.F), cb := c7, ad := a7, n2 := 0, c2 := c5, a2 := a5, lb := y.lb.drop (min a y.P - y.F), ls := y.ls.drop 0 }, 0, ?_, ⟨rfl, rfl, rfl, rfl, rfl, rfl, rfl, rfl, rfl, rfl, rfl, rfl, rfl, rfl, rfl, rfl⟩, HB.out, rfl, by show 0 = y.n2 - 0; omega, ?_, F67⟩
        · have q := HH.out.hn
          have q2 := HH.out.hFP
          have q3 := HH.out.hFA
          have q4 := HH.out.hPE
          refine { dev := dev_kept HH.out.dev F67 (by simpa using hnn.1.symm) (by simpa using hnn.2.1.symm) (by simpa using hnn.2.2.symm), box := LB, bsA := BB, lsA := own0_kept L6.out f7 (lbox_type HX6.out 2 (by decide)), lbl := ?_, hn := ?_, hFP := ?_, hPE := HH.out.hPE, hFA := ?_, hAE := h1, hE := hEE, h2 := ?_, hT := HH.out.hT, f0 := HH.out.f0, f1 := HH.out.f1, c0 := HH.out.c0, hlw := HH.out.hlw }
          · show (y.lb.drop _).length = _
            rw [List.length_drop, HH.out.lbl]
          · show min a y.P + (y.n - (min a y.P - y.F)) = y.E
            omega
          · show min a y.P ≤ y.P
            omega
          · show min a y.P ≤ a
            omega
          · show 0 ≤ y.E
            omega
        · intro k hk
          have hk2 : (k = y.p ∨ k = y.d ∨ k = y.bs ∨ k = y.bo) ∨ k ∈ (Value.ownBlock (.slice a7 (y.n - (min a y.P - y.F)) c7)).toList ∨ k ∈ (Value.ownBlock (.slice a5 (0) c5)).toList := by
            simp only [Lo.own, List.mem_append, List.mem_cons, List.not_mem_nil, or_false] at hk
            exact hk
          simp only [Lo.own, List.mem_append, List.mem_cons, List.not_mem_nil, or_false]
          rcases hk2 with h3 | h3 | h3
          · exact Or.inl (Or.inl h3)
          · rcases NW k h3 with h4 | h4
            · exact Or.inl (Or.inr (Or.inl h4))
            · exact Or.inr (Nat.le_trans F6.out.size h4)
          · exact Or.inr (Nat.le_trans f4.size (N5.out k h3))
    | some x =>
      obtain ⟨g, rfl, hnc, hc⟩ := HS2.out x ha
      have HC4 : Hid (∀ j v, y.ls[j]? = some v → (w2.setCell ⟨y.p, 4, none⟩ (.int .i64 ((a : Int) + 1))).cell? ⟨g, j, none⟩ = some (.int .i64 v)) := hidI (fun j v hj => by
        have h3 := hc j v hj
        rw [← h3]
        refine World.cell?_of_block (f4.block g (block_lt_of_cell h3) (fun e => ?_))
        simp at e
        obtain ⟨cur, hcu⟩ := own0_type HH.out.lsA g (by rw [ha]; simp [Value.ownBlock])
        have h4 := HH.out.box
        unfold LBox at h4
        rw [← e, hcu] at h4
        cases h4)
      rw [ha] at k9 c9
      have q2 : (i : Int) ≤ (y.c2 : Int) := by omega
      clear hc
      go_wp2_with fail
      all_goals
        refine (HCL.out _ (y.n2 - i) _ (by omega) ?_ ?_).mono ?_
        · exact fun e => nomatch e
        · intro x hx
          cases hx
          first
            | exact ⟨g, i, rfl, fun j v hj => by rw [List.getElem?_drop] at hj; exact HC4.out _ v hj⟩
            | exact ⟨g, 0, rfl, fun j v hj => by rw [List.getElem?_drop] at hj; have := (List.getElem?_eq_some_iff.1 hj).1; omega⟩
        rintro e w5 ⟨a5, c5, rfl, l5, n5, f5⟩
        have hx5 := HX4.out.kept f5 (by simp)
        have z9 := hx5.fz 9
        have k5 : w5.cell? ⟨y.p, 9, none⟩ = some (.slice y.a2 y.n2 y.c2) := hx5.c9
        have hx6 := hx5.s9 (.slice a5 (y.n2 - i) c5)
        have f6 := fr_set w5 y.p 9 (.slice a5 (y.n2 - i) c5)
        have l6 := own0_kept l5 f6 (lbox_type hx5 2 (by decide))
        have F6 := hidI ((f4.trans (f5.mono (fun _ _ e => nomatch e))).trans f6)
        have B6 := hidI (own0_kept (own0_kept (own0_kept HH.out.bsA f4 (lbox_type HH.out.box 5 (by decide))) f5 (fun g' hg' => nomatch hg')) f6 (lbox_type hx5 5 (by decide)))
        have L6 := hidI l6
        have N5 := hidI n5
        have HX6 := hidI hx6
        rw [ha] at k5
        clear hx5 hx6 l6 l5 n5 f5
        go_wp2_with fail
        refine (letGo_any _ y.p (.pointer (some ⟨y.d, 0, none⟩)) y.first y.count (y.T : Int) a y.P y.E y.F (min a y.P) y.n y.cb y.ad (.slice a5 (y.n2 - i) c5) y.lb HX6.out B6.out HH.out.lbl (by have := HH.out.hn; omega) rfl (by have := HH.out.hFA; have := HH.out.hFP; omega) (by have := HH.out.hn; omega) (by omega)).mono ?_
        rintro e w7 ⟨rfl, a7, c7, LB, BB, NW, f7⟩
        go_wp2_with fail
        go_ret
        have hnn := HH.out.ne
        have F67 := (F6.out.trans f7)
        refine ⟨rfl, { y with A := a, F := min a y.P, n := y.n - (min a y.P - y.F), cb := c7, ad := a7, n2 := (y.n2 - i), c2 := c5, a2 := a5, lb := y.lb.drop (min a y.P - y.F), ls := y.ls.drop i }, i, ?_, ⟨rfl, rfl, rfl, rfl, rfl, rfl, rfl, rfl, rfl, rfl, rfl, rfl, rfl, rfl, rfl, rfl⟩, HB.out, rfl, by show (y.n2 - i) = y.n2 - i; omega, ?_, F67⟩
        · have q := HH.out.hn
          have q2 := HH.out.hFP
          have q3 := HH.out.hFA
          have q4 := HH.out.hPE
          refine { dev := dev_kept HH.out.dev F67 (by simpa using hnn.1.symm) (by simpa using hnn.2.1.symm) (by simpa using hnn.2.2.symm), box := LB, bsA := BB, lsA := own0_kept L6.out f7 (lbox_type HX6.out 2 (by decide)), lbl := ?_, hn := ?_, hFP := ?_, hPE := HH.out.hPE, hFA := ?_, hAE := h1, hE := hEE, h2 := ?_, hT := HH.out.hT, f0 := HH.out.f0, f1 := HH.out.f1, c0 := HH.out.c0, hlw := HH.out.hlw }
          · show (y.lb.drop _).length = _
            rw [List.length_drop, HH.out.lbl]
          · show min a y.P + (y.n - (min a y.P - y.F)) = y.E
            omega
          · show min a y.P ≤ y.P
            omega
          · show min a y.P ≤ a
            omega
          · show (y.n2 - i) ≤ y.E
            omega
        · intro k hk
          have hk2 : (k = y.p ∨ k = y.d ∨ k = y.bs ∨ k = y.bo) ∨ k ∈ (Value.ownBlock (.slice a7 (y.n - (min a y.P - y.F)) c7)).toList ∨ k ∈ (Value.ownBlock (.slice a5 ((y.n2 - i)) c5)).toList := by
            simp only [Lo.own, List.mem_append, List.mem_cons, List.not_mem_nil, or_false] at hk
            exact hk
          simp only [Lo.own, List.mem_append, List.mem_cons, List.not_mem_nil, or_false]
          rcases hk2 with h3 | h3 | h3
          · exact Or.inl (Or.inl h3)
          · rcases NW k h3 with h4 | h4
            · exact Or.inl (Or.inr (Or.inl h4))
            · exact Or.inr (Nat.le_trans F6.out.size h4)
          · exact Or.inr (Nat.le_trans f4.size (N5.out k h3))
  · have haE : a = y.E := (HOK.out i HB.out).resolve_left hdt
    rw [decide_eq_false hdt]
    have q7 : ((a : Int) + 1 != (y.E : Int) + 1) = false := by rw [haE]; simp
    clear hdt haE
    cases ha : y.a2 with
    | none =>
      obtain ⟨e1, e2⟩ := HS1.out ha
      have hi0 : i = 0 := by omega
      subst hi0
      rw [ha, e1, e2] at k9 c9
      go_wp2_with fail
      all_goals
        refine (HCL.out _ 0 _ (by omega) ?_ ?_).mono ?_
        · exact fun _ => ⟨rfl, rfl⟩
        · exact fun x hx => nomatch hx
        rintro e w5 ⟨a5, c5, rfl, l5, n5, f5⟩
        have hx5 := HX4.out.kept f5 (by simp)
        have z9 := hx5.fz 9
        have k5 : w5.cell? ⟨y.p, 9, none⟩ = some (.slice y.a2 y.n2 y.c2) := hx5.c9
        have hx6 := hx5.s9 (.slice a5 0 c5)
        have f6 := fr_set w5 y.p 9 (.slice a5 0 c5)
        have l6 := own0_kept l5 f6 (lbox_type hx5 2 (by decide))
        have F6 := hidI ((f4.trans (f5.mono (fun _ _ e => nomatch e))).trans f6)
        have B6 := hidI (own0_kept (own0_kept (own0_kept HH.out.bsA f4 (lbox_type HH.out.box 5 (by decide))) f5 (fun g' hg' => nomatch hg')) f6 (lbox_type hx5 5 (by decide)))
        have L6 := hidI l6
        have N5 := hidI n5
        have HX6 := hidI hx6
        rw [ha, e1, e2] at k5
        clear hx5 hx6 l6 l5 n5 f5
        go_wp2_with fail
        refine (letGo_any _ y.p (.pointer (some ⟨y.d, 0, none⟩)) y.first y.count (y.T : Int) a y.P y.E y.F (min a y.P) y.n y.cb y.ad (.slice a5 0 c5) y.lb HX6.out B6.out HH.out.lbl (by have := HH.out.hn; omega) rfl (by have := HH.out.hFA; have := HH.out.hFP; omega) (by have := HH.out.hn; omega) (by omega)).mono ?_
        rintro e w7 ⟨rfl, a7, c7, LB, BB, NW, f7⟩
        go_wp2_with fail
        go_ret
        have hnn := HH.out.ne
        have F67 := (F6.out.trans f7)
        refine ⟨rfl, { y with A := a, F := min a y.P, n := y.n - (min a y.P - y.F), cb := c7, ad := a7, n2 := 0, c2 := c5, a2 := a5, lb := y.lb.drop (min a y.P - y.F), ls := y.ls.drop 0 }, 0, ?_, ⟨rfl, rfl, rfl, rfl, rfl, rfl, rfl, rfl, rfl, rfl, rfl, rfl, rfl, rfl, rfl, rfl⟩, HB.out, rfl, by show 0 = y.n2 - 0; omega, ?_, F67⟩
        · have q := HH.out.hn
          have q2 := HH.out.hFP
          have q3 := HH.out.hFA
          have q4 := HH.out.hPE
          refine { dev := dev_kept HH.out.dev F67 (by simpa using hnn.1.symm) (by simpa using hnn.2.1.symm) (by simpa using hnn.2.2.symm), box := LB, bsA := BB, lsA := own0_kept L6.out f7 (lbox_type HX6.out 2 (by decide)), lbl := ?_, hn := ?_, hFP := ?_, hPE := HH.out.hPE, hFA := ?_, hAE := h1, hE := hEE, h2 := ?_, hT := HH.out.hT, f0 := HH.out.f0, f1 := HH.out.f1, c0 := HH.out.c0, hlw := HH.out.hlw }
          · show (y.lb.drop _).length = _
            rw [List.length_drop, HH.out.lbl]
          · show min a y.P + (y.n - (min a y.P - y.F)) = y.E
            omega
          · show min a y.P ≤ y.P
            omega
          · show min a y.P ≤ a
            omega
          · show 0 ≤ y.E
            omega
        · intro k hk
          have hk2 : (k = y.p ∨ k = y.d ∨ k = y.bs ∨ k = y.bo) ∨ k ∈ (Value.ownBlock (.slice a7 (y.n - (min a y.P - y.F)) c7)).toList ∨ k ∈ (Value.ownBlock (.slice a5 (0) c5)).toList := by
            simp only [Lo.own, List.mem_append, List.mem_cons, List.not_mem_nil, or_false] at hk
            exact hk
          simp only [Lo.own, List.mem_append, List.mem_cons, List.not_mem_nil, or_false]
          rcases hk2 with h3 | h3 | h3
          · exact Or.inl (Or.inl h3)
          · rcases NW k h3 with h4 | h4
            · exact Or.inl (Or.inr (Or.inl h4))
            · exact Or.inr (Nat.le_trans F6.out.size h4)
          · exact Or.inr (Nat.le_trans f4.size (N5.out k h3))
    | some x =>
      obtain ⟨g, rfl, hnc, hc⟩ := HS2.out x ha
      have HC4 : Hid (∀ j v, y.ls[j]? = some v → (w2.setCell ⟨y.p, 4, none⟩ (.int .i64 ((a : Int) + 1))).cell? ⟨g, j, none⟩ = some (.int .i64 v)) := hidI (fun j v hj => by
        have h3 := hc j v hj
        rw [← h3]
        refine World.cell?_of_block (f4.block g (block_lt_of_cell h3) (fun e => ?_))
        simp at e
        obtain ⟨cur, hcu⟩ := own0_type HH.out.lsA g (by rw [ha]; simp [Value.ownBlock])
        have h4 := HH.out.box
        unfold LBox at h4
        rw [← e, hcu] at h4
        cases h4)
      rw [ha] at k9 c9
      have q2 : (i : Int) ≤ (y.c2 : Int) := by omega
      clear hc
      go_wp2_with fail
      all_goals
        refine (HCL.out _ (y.n2 - i) _ (by omega) ?_ ?_).mono ?_
        · exact fun e => nomatch e
        · intro x hx
          cases hx
          first
            | exact ⟨g, i, rfl, fun j v hj => by rw [List.getElem?_drop] at hj; exact HC4.out _ v hj⟩
            | exact ⟨g, 0, rfl, fun j v hj => by rw [List.getElem?_drop] at hj; have := (List.getElem?_eq_some_iff.1 hj).1; omega⟩
        rintro e w5 ⟨a5, c5, rfl, l5, n5, f5⟩
        have hx5 := HX4.out.kept f5 (by simp)
        have z9 := hx5.fz 9
        have k5 : w5.cell? ⟨y.p, 9, none⟩ = some (.slice y.a2 y.n2 y.c2) := hx5.c9
        have hx6 := hx5.s9 (.slice a5 (y.n2 - i) c5)
        have f6 := fr_set w5 y.p 9 (.slice a5 (y.n2 - i) c5)
        have l6 := own0_kept l5 f6 (lbox_type hx5 2 (by decide))
        have F6 := hidI ((f4.trans (f5.mono (fun _ _ e => nomatch e))).trans f6)
        have B6 := hidI (own0_kept (own0_kept (own0_kept HH.out.bsA f4 (lbox_type HH.out.box 5 (by decide))) f5 (fun g' hg' => nomatch hg')) f6 (lbox_type hx5 5 (by decide)))
        have L6 := hidI l6
        have N5 := hidI n5
        have HX6 := hidI hx6
        rw [ha] at k5
        clear hx5 hx6 l6 l5 n5 f5
        go_wp2_with fail
        refine (letGo_any _ y.p (.pointer (some ⟨y.d, 0, none⟩)) y.first y.count (y.T : Int) a y.P y.E y.F (min a y.P) y.n y.cb y.ad (.slice a5 (y.n2 - i) c5) y.lb HX6.out B6.out HH.out.lbl (by have := HH.out.hn; omega) rfl (by have := HH.out.hFA; have := HH.out.hFP; omega) (by have := HH.out.hn; omega) (by omega)).mono ?_
        rintro e w7 ⟨rfl, a7, c7, LB, BB, NW, f7⟩
        go_wp2_with fail
        go_ret
        have hnn := HH.out.ne
        have F67 := (F6.out.trans f7)
        refine ⟨rfl, { y with A := a, F := min a y.P, n := y.n - (min a y.P - y.F), cb := c7, ad := a7, n2 := (y.n2 - i), c2 := c5, a2 := a5, lb := y.lb.drop (min a y.P - y.F), ls := y.ls.drop i }, i, ?_, ⟨rfl, rfl, rfl, rfl, rfl, rfl, rfl, rfl, rfl, rfl, rfl, rfl, rfl, rfl, rfl, rfl⟩, HB.out, rfl, by show (y.n2 - i) = y.n2 - i; omega, ?_, F67⟩
        · have q := HH.out.hn
          have q2 := HH.out.hFP
          have q3 := HH.out.hFA
          have q4 := HH.out.hPE
          refine { dev := dev_kept HH.out.dev F67 (by simpa using hnn.1.symm) (by simpa using hnn.2.1.symm) (by simpa using hnn.2.2.symm), box := LB, bsA := BB, lsA := own0_kept L6.out f7 (lbox_type HX6.out 2 (by decide)), lbl := ?_, hn := ?_, hFP := ?_, hPE := HH.out.hPE, hFA := ?_, hAE := h1, hE := hEE, h2 := ?_, hT := HH.out.hT, f0 := HH.out.f0, f1 := HH.out.f1, c0 := HH.out.c0, hlw := HH.out.hlw }
          · show (y.lb.drop _).length = _
            rw [List.length_drop, HH.out.lbl]
          · show min a y.P + (y.n - (min a y.P - y.F)) = y.E
            omega
          · show min a y.P ≤ y.P
            omega
          · show min a y.P ≤ a
            omega
          · show (y.n2 - i) ≤ y.E
            omega
        · intro k hk
          have hk2 : (k = y.p ∨ k = y.d ∨ k = y.bs ∨ k = y.bo) ∨ k ∈ (Value.ownBlock (.slice a7 (y.n - (min a y.P - y.F)) c7)).toList ∨ k ∈ (Value.ownBlock (.slice a5 ((y.n2 - i)) c5)).toList := by
            simp only [Lo.own, List.mem_append, List.mem_cons, List.not_mem_nil, or_false] at hk
            exact hk
          simp only [Lo.own, List.mem_append, List.mem_cons, List.not_mem_nil, or_false]
          rcases hk2 with h3 | h3 | h3
          · exact Or.inl (Or.inl h3)
          · rcases NW k h3 with h4 | h4
            · exact Or.inl (Or.inr (Or.inl h4))
            · exact Or.inr (Nat.le_trans F6.out.size h4)
          · exact Or.inr (Nat.le_trans f4.size (N5.out k h3))
end Go.Proofs.YtopaeomjndblkaaGreat

namespace Go.Proofs.YtopaeomjndblkaaGreat
open Go.RowKit Go.Maps

/-- The places of a log's records rise, from the oldest one on. -/
structure LsOk (y : Lo) : Prop where
  rise : y.ls.Pairwise (· < ·)
  le : ∀ v ∈ y.ls, (y.A : Int) + 1 ≤ v ∧ v ≤ (y.E : Int)
theorem bin_found {ls : List Int} (hr : ls.Pairwise (· < ·)) {k : Int} {i j : Nat} (hi : ls[i]? = some k) (hj : BinAt ls k j) : ls[j]? = some k := by
  obtain ⟨hil, hie⟩ := List.getElem?_eq_some_iff.1 hi
  have hp := List.pairwise_iff_getElem.1 hr
  rcases Nat.lt_trichotomy i j with h | h | h
  · exfalso
    have hjl : j - 1 < ls.length := by have := hj.le; omega
    have h1 := hj.lo _ (by omega) (List.getElem?_eq_getElem hjl)
    by_cases e : i = j - 1
    · subst e
      omega
    · have := hp i (j - 1) hil hjl (by omega)
      omega
  · subst h
    exact hi
  · exfalso
    have hjl : j < ls.length := by omega
    have h1 := hj.hi _ (List.getElem?_eq_getElem hjl)
    have := hp j i hjl hil h
    omega
set_option maxHeartbeats 1000000 in
set_option maxRecDepth 100000 in
theorem lo_read {w : World} {y : Lo} (h : LoAt w y) (hr : LsOk y) {i a : Nat} (hi : y.ls[i]? = some ((a : Int) + 1)) (ha : y.A ≤ a) (hE : a < y.E) (hsz : y.E ≤ a + 100000) {r : Rec} {m : Nat} (hd : decR (y.lb.drop (a - y.F)) = some (r, m)) :
    Calls Tryz.prog 201 #[.pointer (some ⟨y.p, 0, none⟩), .int .i64 ((a : Int) + 1)] w fun e w' => ∃ s, e = .returned (.tuple #[.agg (recV r s), .int .i64 0]) ∧ NewSpots w w' r s ∧ Fr [] w w' := by
  have hEE := h.hE
  have h22 := h.h2
  have hlb := h.lbl
  have hhn := h.hn
  have hFA := h.hFA
  have hls : y.ls.length = y.n2 := by
    have h1 := h.lsA.1
    simpa [lsV] using h1
  have rR : RBox (w.alloc (.cells #[.int .i64 0, .int .i64 0, .int .u8 0, .int .i64 0, .int .i64 0, .int .i64 0, .int .i64 0, .int .i64 0, .slice none 0 0, .slice none 0 0] 192)) w.heap.size (zeroR 0 0) zeroS := heap_alloc_new w _
  have f1 := (Fr.refl [] w).alloc (.cells #[.int .i64 0, .int .i64 0, .int .u8 0, .int .i64 0, .int .i64 0, .int .i64 0, .int .i64 0, .int .i64 0, .slice none 0 0, .slice none 0 0] 192)
  have HH := hidI h
  have HR := hidI hr
  have HI := hidI hi
  have HD := hidI hd
  clear h hr hi hd
  go_enter Tryz.func201, Tryz.ntmps201
  go_wp2_with fail
  generalize w.alloc (.cells #[.int .i64 0, .int .i64 0, .int .u8 0, .int .i64 0, .int .i64 0, .int .i64 0, .int .i64 0, .int .i64 0, .slice none 0 0, .slice none 0 0] 192) = w1 at rR f1 ⊢
  have H1 := hidI (HH.out.kept f1 (by simp))
  have k0 : w1.cell? ⟨y.p, 0, none⟩ = some (.pointer (some ⟨y.d, 0, none⟩)) := H1.out.box.c0
  have k9 : w1.cell? ⟨y.p, 9, none⟩ = some (.slice y.a2 y.n2 y.c2) := H1.out.box.c9
  refine (lmade_yes _ y.p y.d k0).mono ?_
  rintro e w1 ⟨rfl, rfl⟩
  go_wp2_with fail
  obtain ⟨s1, s2⟩ := H1.out.lsA.src hls
  refine (bin_any w1 y.a2 y.n2 y.c2 y.ls ((a : Int) + 1) hls (by omega) (fun j v hj => ?_)).mono ?_
  · cases hx : y.a2 with
    | none =>
      have := (s1 hx).1
      have := (List.getElem?_eq_some_iff.1 hj).1
      omega
    | some x =>
      obtain ⟨g, rfl, _, hc⟩ := s2 x hx
      exact ⟨g, rfl, hc j v hj⟩
  rintro e w2 ⟨j, rfl, rfl, hbin⟩
  rw [decide_eq_true (bin_found HR.out.rise HI.out hbin)]
  clear s1 s2 hbin
  have hlen : y.n = (a - y.F) + (y.E - a) := by omega
  obtain ⟨g, had, B1, hbb⟩ := H1.out.bsA.at (by omega) hlb
  obtain ⟨c, hcb⟩ : ∃ c, y.cb = c := ⟨_, rfl⟩
  rw [hcb] at hbb
  have L1 : LBox w2 y.p ⟨.pointer (some ⟨y.d, 0, none⟩), y.first, y.count, (y.T : Int), (y.A : Int) + 1, (y.P : Int) + 1, (y.E : Int) + 1, .slice (some ⟨g, 0, none⟩) y.n c, (y.F : Int) + 1, .slice y.a2 y.n2 y.c2⟩ := by
    have := H1.out.box
    unfold Lo.lg at this
    rw [had, hcb] at this
    exact this
  go_wp2_with fail
  refine (record_any w2 y.p _ y.first y.count y.T _ _ _ ((y.F : Int) + 1) ((a : Int) + 1) _ g y.n c (a - y.F) (y.E - a) (c - (a - y.F)) y.lb m r L1 B1 hlb (by omega) hlen (by omega) (by omega) hbb ?_ HD.out).mono ?_
  · rw [wrapI _ (by omega) (by omega)]
    omega
  rintro e w3 ⟨s, rfl, ns, f2⟩
  have r2 := rR.kept f2 (by simp)
  go_wp2_with (refine wp_storeR rfl _ _ rfl w.heap.size _ r _ s rfl rfl r2 ?_; intro w4 r3 f3)
  refine bodyPost_ret (resR2 rfl _ _ w.heap.size r s rfl r3) rfl ⟨s, rfl, ?_, (f1.trans f2).then f3 (fun i hi hm => by simp at hm; omega)⟩
  refine new_base (ns.kept f3 (fun g' hg' cur t h => ?_)) f1.size
  simp at hg'
  subst hg'
  have h1 := r2
  unfold RBox at h1
  rw [h1] at h
  cases h
  decide
end Go.Proofs.YtopaeomjndblkaaGreat

