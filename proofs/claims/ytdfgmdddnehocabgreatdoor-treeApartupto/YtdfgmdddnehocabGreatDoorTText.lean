/-
  Text.
-/
import Derived.Test.YtdfgmdddnehocabGreatDoorTSmall
namespace Go.Proofs.YtdfgmdddnehocabGreatDoor
open Go.RowKit Go.Maps Go.Lib

/-! ### rows of texts that are owned -/
theorem info9' : ∃ i, Tryz.prog.info? 9 = some i ∧ i.zero = some (.string ⟨#[]⟩) ∧ i.size = 1 ∧ i.bytes = 16 := by
  have h : (Tryz.prog.info? 9).map (fun i => (i.zero, i.size, i.bytes)) = some (some (.string ⟨#[]⟩), 1, 16) := by kernel_rfl
  cases hi : Tryz.prog.info? 9 with
  | none => rw [hi] at h; cases h
  | some i =>
    rw [hi] at h
    simp at h
    exact ⟨i, rfl, h.1, h.2.1, h.2.2⟩
def Strs (w0 w : World) (v : Value) (l : List ByteArray) : Prop := w.ownsRow w0.heap.size 9 1 v l.length (l.map Value.string)
theorem Strs.nil (w0 w : World) : Strs w0 w (.slice none 0 0) [] := World.ownsRow_nil w _ 9 1
theorem Strs.shape {w0 w : World} {v : Value} {l : List ByteArray} (h : Strs w0 w v l) : ∃ ad cap, v = .slice ad l.length cap ∧ ((ad = none ∧ l = []) ∨ ∃ g, ad = some ⟨g, 0, none⟩ ∧ g < w.heap.size ∧ l.length ≤ cap ∧ ∀ (j : Nat) x, l[j]? = some x → w.cell? ⟨g, 0 + j, none⟩ = some (.string x)) := by
  rcases h.2 with ⟨rfl, hn⟩ | ⟨g, cap, cur, rfl, hb, hg, hnc, _, hcs, ht⟩
  · exact ⟨none, 0, by rw [hn], Or.inl ⟨rfl, List.eq_nil_of_length_eq_zero hn⟩⟩
  · refine ⟨_, cap, rfl, Or.inr ⟨g, rfl, (Array.getElem?_eq_some_iff.1 hg).1, hnc, fun j x hj => ?_⟩⟩
    have hjl : j < l.length := (List.getElem?_eq_some_iff.1 hj).1
    rw [Nat.zero_add, cell_of_row w g j _ _ _ hg]
    have : (l.map Value.string)[j]? = some (.string x) := by simp [hj]
    rw [← this, ← ht, List.getElem?_take, if_pos (by omega)]
    simp
theorem Strs.kept0 {w0 w w' : World} {v : Value} {l : List ByteArray} (h : Strs w0 w v l) (k : Fr [] w w') : Strs w0 w' v l := by
  obtain ⟨h1, h2⟩ := h
  refine ⟨h1, ?_⟩
  rcases h2 with hn | ⟨g, cap, cur, rfl, hb, hg, r⟩
  · exact Or.inl hn
  · exact Or.inr ⟨g, cap, cur, rfl, hb, k.same (by simp) hg, r⟩
theorem Strs.keptG {w0 w w' : World} {v : Value} {l : List ByteArray} {L : List Nat} (h : Strs w0 w v l) (k : Fr L w w') (hL : ∀ g, v.ownBlock = some g → g ∉ L) : Strs w0 w' v l := by
  obtain ⟨h1, h2⟩ := h
  refine ⟨h1, ?_⟩
  rcases h2 with hn | ⟨g, cap, cur, rfl, hb, hg, r⟩
  · exact Or.inl hn
  · exact Or.inr ⟨g, cap, cur, rfl, hb, k.same (hL g rfl) hg, r⟩
section
variable {ops : Array Oper} {rest : List Oper} {o : Oper} {a : Act} {w : World} {Q : Exit → Act → World → Prop}
theorem wp_appS (hgd : o.guard = none) (s y : Operand) (ho : o.op = .call { callee := .builtin .append, args := #[s, y], argTypes := #[66, 66] }) (w0 : World) (v : Value) (l : List ByteArray) (hs : a.eval s = v) (hown : Strs w0 w v l) (hw : w0.heap.size ≤ w.heap.size)
    (b c : Nat) (x : ByteArray) (hy : a.eval y = .slice (some ⟨b, 0, none⟩) 1 c) (hx : w.cell? ⟨b, 0, none⟩ = some (.string x)) (hm : l.length + 1 ≤ 16777216) (f0 : Fr [] w0 w)
    (h : ∀ v' w', Strs w0 w' v' (l ++ [x]) → Fr [] w0 w' → wpList Tryz.prog ops Q rest (a.put o.dst v') w') : wpList Tryz.prog ops Q (o :: rest) a w :=
  wpList_plain hgd fun K hK => by
    obtain ⟨i, hi, hz, hsz, hb⟩ := info9'
    obtain ⟨g, cap, w', hrun, h2, h3, h5, h6⟩ := run_append_lies (P := Tryz.prog) w 66 o.type w0.heap.size 9 i (.string ⟨#[]⟩) 1 16 Tryz.underlying66 hi hz hsz hb rfl (by omega) v l.length (l.map Value.string) hown ⟨b, 0, none⟩ 1 c [.string x] (by simp) (by intro j u hj; cases j with | zero => (simp at hj; subst hj; rw [Addr.add_mid]; simpa using hx) | succ j => simp at hj) (by intro u hu; simp at hu; subst hu; rfl) (by omega) (by unfold maxLen; omega) (by omega) hw _ rfl
    unfold Oper.wp execOp
    simp [ho, resolve, invoke, builtin, hs, hy, hrun, Result.andThen]
    refine hK _ _ (h _ _ ?_ (f0.grown h3 (fun j e hj => ?_)))
    · show w'.ownsRow w0.heap.size 9 1 _ (l ++ [x]).length ((l ++ [x]).map Value.string)
      rw [List.length_append, List.map_append]
      exact h2
    · have := (hown.lt j e).1
      omega
end
/-- the Values of the Texts from a place to ahead of another. -/
def textsL (t : List Nd) (x y : Nat) : List ByteArray := ((List.range' x (y - x)).filter (fun i => decide (knd t i = 4))).map (vlu t)
def textS (t : List Nd) (k : Int) : List UInt8 := if hasB t k = true then (if knd t k.toNat = 1 ∨ knd t k.toNat = 2 then ((textsL t k.toNat (endOf t k.toNat)).map bl).flatten else bl (vlu t k.toNat)) else []
theorem textsL_step {t : List Nd} {x y : Nat} (h : x ≤ y) : textsL t x (y + 1) = textsL t x y ++ (if knd t y = 4 then [vlu t y] else []) := by
  unfold textsL
  rw [show y + 1 - x = (y - x) + 1 by omega, List.range'_concat, List.filter_append, List.map_append, show x + 1 * (y - x) = y by omega]
  congr 1
  by_cases c : knd t y = 4
  · rw [if_pos c]; simp [c]
  · rw [if_neg c]; simp [c]
theorem textsL_len (t : List Nd) (x y : Nat) : (textsL t x y).length ≤ y - x := by
  unfold textsL
  rw [List.length_map]
  exact Nat.le_trans (List.length_filter_le _ _) (by rw [List.length_range']; omega)
theorem join_flat : ∀ l : List (List UInt8), Lib.join l [] = l.flatten
  | [] => rfl
  | [x] => by simp [Lib.join]
  | x :: y :: r => by
    have := join_flat (y :: r)
    simp [Lib.join] at this ⊢
    rw [this]
/-- values of a right row are not too long. -/
theorem flat_len (t : List Nd) (G : Good t) : ∀ (l : List Nat), (∀ i ∈ l, i < t.length) → (((l.map (vlu t)).map bl).flatten).length ≤ l.length * 65536
  | [], _ => by simp
  | x :: r, h => by
    have ih := flat_len t G r (fun i hi => h i (List.mem_cons_of_mem _ hi))
    have hx := (G x (h x List.mem_cons_self)).2.1.2
    simp only [List.map_cons, List.flatten_cons, List.length_append, List.length_cons]
    rw [bl_length]
    omega
theorem join_any (w0 w : World) (v : Value) (l : List ByteArray) (h : Strs w0 w v l) (hl : l.length ≤ 16777216) (hb : ((l.map bl).flatten).length ≤ 140737488355328) :
    Calls Tryz.prog 23 #[v, .string ⟨#[]⟩] w fun e w' => e = .returned (.string (mkS ((l.map bl).flatten))) ∧ Fr [] w w' := by
  obtain ⟨ad, cap, rfl, h2⟩ := h.shape
  have hj : Lib.join (l.map (·.data.toList)) (ByteArray.mk #[]).data.toList = (l.map bl).flatten := join_flat _
  rcases h2 with ⟨rfl, rfl⟩ | ⟨g, rfl, hg, hc, hcell⟩
  · exact (Tryz.strings_Join_none none cap ⟨#[]⟩ w).mono fun e w' ⟨h1, h2⟩ => ⟨h1, by rw [h2]; exact Fr.refl _ _⟩
  · refine (Tryz.strings_Join g 0 cap l ⟨#[]⟩ w hcell hg (by omega) hc (by rw [hj]; exact hb)).mono fun e w' ⟨h1, h2⟩ => ⟨?_, below_fr h2⟩
    rw [h1, hj]
    rfl
set_option maxHeartbeats 8000000 in
set_option maxRecDepth 100000 in
theorem Text_any (w : World) (L : LaidW w) (ad : Option Addr) (c n : Nat) (t : List Nd) (hn : t.length = n) (hc : n ≤ c) (hN : NodesAt w ad t) (hS : Sane t) (k : Int) :
    Calls Tryz.prog 14 #[.slice ad n c, .int .i64 k] w fun e w' => e = .returned (.string (mkS (textS t k))) ∧ Fr [] w w' := by
  have cH := Hid.mk (has_any w L ad c n t hn hN hS k)
  unfold textS
  cases hh : hasB t k with
  | false =>
    rw [hh] at cH
    rw [if_neg (by decide)]
    clear hN hS L hh
    go_enter Tryz.func14, Tryz.ntmps14
    go_wp2_with (go_at_call 18; refine cH.out.mono ?_; rintro e w5 ⟨rfl, f5⟩)
    go_ret
    exact ⟨rfl, f5⟩
  | true =>
    rw [hh] at cH
    rw [if_pos rfl]
    unfold hasB at hh
    rw [Bool.and_eq_true, decide_eq_true_eq] at hh
    obtain ⟨m, rfl⟩ : ∃ m : Nat, k = (m : Int) := ⟨k.toNat, by omega⟩
    subst hn
    have hl := ok_len hh.2
    have HG := Hid.mk (ok_good hh.2)
    obtain ⟨b, off, rfl, hI⟩ := hN.in (by omega)
    have HI := Hid.mk hI
    rw [Int.toNat_natCast]
    have hm : m < t.length := by omega
    have hm' : (m : Int) < (t.length : Int) := by omega
    have hm0 : (0 : Int) ≤ (m : Int) := by omega
    obtain ⟨c0, c1, c2, c3⟩ := hI m hm
    clear hN hS L hh hI c1 c3
    by_cases h12 : knd t m = 1 ∨ knd t m = 2
    · rw [if_pos h12]
      rcases h12 with h | h
      · have hk : knd t m = 1 := h
        obtain ⟨E, hE⟩ : ∃ E, endOf t m = E := ⟨_, rfl⟩
        have hEl : E ≤ t.length := by rw [← hE]; exact end_len t m hm
        have hEg : m < E := by rw [← hE]; have := (endOf_is (t := t) (k := (m : Int)) (by omega) (by omega)).gt; omega
        have HE := Hid.mk hE
        have HK := Hid.mk hk
        rw [hE]
        clear hE c0 c2 hk h
        go_enter Tryz.func14, Tryz.ntmps14
        go_wp2_with (first
          | (go_at_call 18; refine cH.out.mono ?_; rintro e w5 ⟨rfl, f5⟩; obtain ⟨c0, c1, c2, c3⟩ := HI.out.kept f5 (by simp) m hm; rw [HK.out] at c0; clear c1 c2 c3)
          | (go_at_call 20; refine (end_any _ b off c t (HI.out.kept f5 (by simp)) hl m hm).mono ?_; rw [HE.out]; rintro e w6 ⟨rfl, f6⟩))
        have fr6 := f5.trans f6
        clear c0
        go_loopw [5, 38] (fun s5 s38 wr => ∃ i : Nat, s38 = .int .i64 ((i : Int) - (m : Int)) ∧ m ≤ i ∧ i ≤ E ∧ Hid (Strs w wr s5 (textsL t m i)) ∧ Hid (Fr [] w wr)) (fun _ s38 _ => E - m - (RowKit.intOf s38).toNat)
        case atStart => exact ⟨m, by congr 1; omega, Nat.le_refl _, by omega, (by show Strs _ _ _ (textsL t m m); unfold textsL; rw [Nat.sub_self]; exact Strs.nil _ _), fr6⟩
        case round =>
          obtain ⟨i, rfl, hmi, hiE, hI, frh⟩ := hrel
          obtain ⟨d, rfl⟩ : ∃ d, i = m + d := ⟨i - m, by omega⟩
          have e1 : ((m + d : Nat) : Int) - (m : Int) = (d : Int) := by omega
          rw [e1]
          have hd0 : (0 : Int) ≤ (d : Int) := by omega
          obtain ⟨adv, capv, rfl, _⟩ := hI.out.shape
          by_cases hlt : m + d < E
          · have hlt' : (d : Int) < ((E - m : Nat) : Int) := by omega
            obtain ⟨c0, c1, c2, c3⟩ := (HI.out.kept frh.out (by simp)) (m + d) (by omega)
            rw [show off + (m + d) * 4 = off + m * 4 + d * 4 by omega] at c0 c1 c2 c3
            have hst := textsL_step (t := t) (x := m) (y := m + d) (by omega)
            have hlen := textsL_len t m (m + d)
            generalize nam t (m + d) = NM at c1
            generalize vlu t (m + d) = VL at c2 hst
            generalize par t (m + d) = p at c3
            by_cases h4 : knd t (m + d) = 4
            · rw [if_pos h4] at hst
              have HS := Hid.mk hst
              rw [h4] at c0
              clear hst h4
              go_wp2_with (first
                | (refine wp_alloc 62 rfl rfl _ zeroN _ rfl ?_; intro wa ga hga hca fa)
                | (refine wp_storeC 62 rfl _ _ rfl ga _ (ndC 4 NM VL p) rfl rfl hca infoN rfl (ndC_one _ _ _ _) ?_; intro wb hcb fb; have frb : Fr [] w wb := (frh.out.trans fa).then fb (fun j hj hm => (by simp at hm; have := frh.out.size; omega)); have sb : Strs w wb _ (textsL t m (m + d)) := (hI.out.kept0 fa).keptG fb (fun g hg => (by simp; have := (hI.out.lt g hg).2; omega)); have n0 : wb.cell? ⟨ga, 0, none⟩ = some (.int .u8 4) := hcb.cell 0; have n2 : wb.cell? ⟨ga, 2, none⟩ = some (.string VL) := hcb.cell 2; clear hca fa fb)
                | (refine wp_appS rfl _ _ rfl w _ _ rfl (sb.kept0 ((Fr.refl _ _).alloc _)) (by have := frb.size; simp; omega) wb.heap.size 1 VL rfl (cell_new1 _ _ _) (by omega) (frb.alloc _) ?_; intro v' w' hS' f')
                | go_in)
              exact ⟨⟨m + d + 1, by congr 1; omega, by omega, by omega, by show Strs _ _ _ (textsL t m (m + d + 1)); rw [HS.out]; exact hS', f'⟩, by simp [RowKit.intOf]; omega⟩
            · rw [if_neg h4, List.append_nil] at hst
              have HS := Hid.mk hst
              have h4b : ((((knd t (m + d) : Nat)) : Int) == 4) = false := by rw [beq_eq_false_iff_ne]; omega
              generalize knd t (m + d) = K at c0 h4b
              clear hst h4
              go_wp2_with (first
                | (refine wp_alloc 62 rfl rfl _ zeroN _ rfl ?_; intro wa ga hga hca fa)
                | (refine wp_storeC 62 rfl _ _ rfl ga _ (ndC K NM VL p) rfl rfl hca infoN rfl (ndC_one _ _ _ _) ?_; intro wb hcb fb; have frb : Fr [] w wb := (frh.out.trans fa).then fb (fun j hj hm => (by simp at hm; have := frh.out.size; omega)); have sb : Strs w wb _ (textsL t m (m + d)) := (hI.out.kept0 fa).keptG fb (fun g hg => (by simp; have := (hI.out.lt g hg).2; omega)); have n0 : wb.cell? ⟨ga, 0, none⟩ = some (.int .u8 (K : Int)) := hcb.cell 0; clear hca fa fb)
                | go_in)
              exact ⟨⟨m + d + 1, by congr 1; omega, by omega, by omega, by show Strs _ _ _ (textsL t m (m + d + 1)); rw [HS.out]; exact sb, frb⟩, by simp [RowKit.intOf]; omega⟩
          · obtain rfl : E = m + d := by omega
            have hlt' : ¬ (d : Int) < ((m + d - m : Nat) : Int) := by omega
            have hlen := textsL_len t m (m + d)
            have hb : (((textsL t m (m + d)).map bl).flatten).length ≤ 140737488355328 := by
              unfold textsL
              have := flat_len t HG.out ((List.range' m (m + d - m)).filter (fun i => decide (knd t i = 4))) (fun i hi => by have := List.mem_range'_1.1 (List.mem_filter.1 hi).1; omega)
              have h2 : ((List.range' m (m + d - m)).filter (fun i => decide (knd t i = 4))).length ≤ m + d - m := Nat.le_trans (List.length_filter_le _ _) (by rw [List.length_range']; omega)
              omega
            have cJ := Hid.mk (join_any w wr _ _ hI.out (by omega) hb)
            clear hb hlen
            go_wp2_with (go_at_call 23; refine cJ.out.mono ?_; rintro e w7 ⟨rfl, f7⟩)
            go_ret
            exact ⟨rfl, frh.out.trans f7⟩
      · have hk : knd t m = 2 := h
        obtain ⟨E, hE⟩ : ∃ E, endOf t m = E := ⟨_, rfl⟩
        have hEl : E ≤ t.length := by rw [← hE]; exact end_len t m hm
        have hEg : m < E := by rw [← hE]; have := (endOf_is (t := t) (k := (m : Int)) (by omega) (by omega)).gt; omega
        have HE := Hid.mk hE
        have HK := Hid.mk hk
        rw [hE]
        clear hE c0 c2 hk h
        go_enter Tryz.func14, Tryz.ntmps14
        go_wp2_with (first
          | (go_at_call 18; refine cH.out.mono ?_; rintro e w5 ⟨rfl, f5⟩; obtain ⟨c0, c1, c2, c3⟩ := HI.out.kept f5 (by simp) m hm; rw [HK.out] at c0; clear c1 c2 c3)
          | (go_at_call 20; refine (end_any _ b off c t (HI.out.kept f5 (by simp)) hl m hm).mono ?_; rw [HE.out]; rintro e w6 ⟨rfl, f6⟩))
        have fr6 := f5.trans f6
        clear c0
        go_loopw [5, 38] (fun s5 s38 wr => ∃ i : Nat, s38 = .int .i64 ((i : Int) - (m : Int)) ∧ m ≤ i ∧ i ≤ E ∧ Hid (Strs w wr s5 (textsL t m i)) ∧ Hid (Fr [] w wr)) (fun _ s38 _ => E - m - (RowKit.intOf s38).toNat)
        case atStart => exact ⟨m, by congr 1; omega, Nat.le_refl _, by omega, (by show Strs _ _ _ (textsL t m m); unfold textsL; rw [Nat.sub_self]; exact Strs.nil _ _), fr6⟩
        case round =>
          obtain ⟨i, rfl, hmi, hiE, hI, frh⟩ := hrel
          obtain ⟨d, rfl⟩ : ∃ d, i = m + d := ⟨i - m, by omega⟩
          have e1 : ((m + d : Nat) : Int) - (m : Int) = (d : Int) := by omega
          rw [e1]
          have hd0 : (0 : Int) ≤ (d : Int) := by omega
          obtain ⟨adv, capv, rfl, _⟩ := hI.out.shape
          by_cases hlt : m + d < E
          · have hlt' : (d : Int) < ((E - m : Nat) : Int) := by omega
            obtain ⟨c0, c1, c2, c3⟩ := (HI.out.kept frh.out (by simp)) (m + d) (by omega)
            rw [show off + (m + d) * 4 = off + m * 4 + d * 4 by omega] at c0 c1 c2 c3
            have hst := textsL_step (t := t) (x := m) (y := m + d) (by omega)
            have hlen := textsL_len t m (m + d)
            generalize nam t (m + d) = NM at c1
            generalize vlu t (m + d) = VL at c2 hst
            generalize par t (m + d) = p at c3
            by_cases h4 : knd t (m + d) = 4
            · rw [if_pos h4] at hst
              have HS := Hid.mk hst
              rw [h4] at c0
              clear hst h4
              go_wp2_with (first
                | (refine wp_alloc 62 rfl rfl _ zeroN _ rfl ?_; intro wa ga hga hca fa)
                | (refine wp_storeC 62 rfl _ _ rfl ga _ (ndC 4 NM VL p) rfl rfl hca infoN rfl (ndC_one _ _ _ _) ?_; intro wb hcb fb; have frb : Fr [] w wb := (frh.out.trans fa).then fb (fun j hj hm => (by simp at hm; have := frh.out.size; omega)); have sb : Strs w wb _ (textsL t m (m + d)) := (hI.out.kept0 fa).keptG fb (fun g hg => (by simp; have := (hI.out.lt g hg).2; omega)); have n0 : wb.cell? ⟨ga, 0, none⟩ = some (.int .u8 4) := hcb.cell 0; have n2 : wb.cell? ⟨ga, 2, none⟩ = some (.string VL) := hcb.cell 2; clear hca fa fb)
                | (refine wp_appS rfl _ _ rfl w _ _ rfl (sb.kept0 ((Fr.refl _ _).alloc _)) (by have := frb.size; simp; omega) wb.heap.size 1 VL rfl (cell_new1 _ _ _) (by omega) (frb.alloc _) ?_; intro v' w' hS' f')
                | go_in)
              exact ⟨⟨m + d + 1, by congr 1; omega, by omega, by omega, by show Strs _ _ _ (textsL t m (m + d + 1)); rw [HS.out]; exact hS', f'⟩, by simp [RowKit.intOf]; omega⟩
            · rw [if_neg h4, List.append_nil] at hst
              have HS := Hid.mk hst
              have h4b : ((((knd t (m + d) : Nat)) : Int) == 4) = false := by rw [beq_eq_false_iff_ne]; omega
              generalize knd t (m + d) = K at c0 h4b
              clear hst h4
              go_wp2_with (first
                | (refine wp_alloc 62 rfl rfl _ zeroN _ rfl ?_; intro wa ga hga hca fa)
                | (refine wp_storeC 62 rfl _ _ rfl ga _ (ndC K NM VL p) rfl rfl hca infoN rfl (ndC_one _ _ _ _) ?_; intro wb hcb fb; have frb : Fr [] w wb := (frh.out.trans fa).then fb (fun j hj hm => (by simp at hm; have := frh.out.size; omega)); have sb : Strs w wb _ (textsL t m (m + d)) := (hI.out.kept0 fa).keptG fb (fun g hg => (by simp; have := (hI.out.lt g hg).2; omega)); have n0 : wb.cell? ⟨ga, 0, none⟩ = some (.int .u8 (K : Int)) := hcb.cell 0; clear hca fa fb)
                | go_in)
              exact ⟨⟨m + d + 1, by congr 1; omega, by omega, by omega, by show Strs _ _ _ (textsL t m (m + d + 1)); rw [HS.out]; exact sb, frb⟩, by simp [RowKit.intOf]; omega⟩
          · obtain rfl : E = m + d := by omega
            have hlt' : ¬ (d : Int) < ((m + d - m : Nat) : Int) := by omega
            have hlen := textsL_len t m (m + d)
            have hb : (((textsL t m (m + d)).map bl).flatten).length ≤ 140737488355328 := by
              unfold textsL
              have := flat_len t HG.out ((List.range' m (m + d - m)).filter (fun i => decide (knd t i = 4))) (fun i hi => by have := List.mem_range'_1.1 (List.mem_filter.1 hi).1; omega)
              have h2 : ((List.range' m (m + d - m)).filter (fun i => decide (knd t i = 4))).length ≤ m + d - m := Nat.le_trans (List.length_filter_le _ _) (by rw [List.length_range']; omega)
              omega
            have cJ := Hid.mk (join_any w wr _ _ hI.out (by omega) hb)
            clear hb hlen
            go_wp2_with (go_at_call 23; refine cJ.out.mono ?_; rintro e w7 ⟨rfl, f7⟩)
            go_ret
            exact ⟨rfl, frh.out.trans f7⟩
    · rw [if_neg h12]
      obtain ⟨K, hK⟩ : ∃ K, knd t m = K := ⟨_, rfl⟩
      rw [hK] at h12
      have HK := Hid.mk hK
      have h1 : ((K : Int) != 1) = true := by rw [bne_iff_ne]; omega
      have h2 : ((K : Int) != 2) = true := by rw [bne_iff_ne]; omega
      rw [mkS_bl]
      clear c0 c2 hK h12
      go_enter Tryz.func14, Tryz.ntmps14
      go_wp2_with (first
        | (go_at_call 18; refine cH.out.mono ?_; rintro e w5 ⟨rfl, f5⟩; obtain ⟨c0, c1, c2, c3⟩ := HI.out.kept f5 (by simp) m hm; rw [HK.out] at c0; clear c1 c3)
        | go_in)
      go_ret
      exact ⟨rfl, f5⟩
end Go.Proofs.YtdfgmdddnehocabGreatDoor
