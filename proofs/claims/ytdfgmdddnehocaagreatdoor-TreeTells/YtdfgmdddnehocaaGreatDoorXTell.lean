/-
  The document's own answer: Part.
-/
import Derived.Test.YtdfgmdddnehocaaGreatDoorXPart
import Derived.Test.YtdfgmdddnehocaaGreatDoorXRefG
namespace Go.Proofs.YtdfgmdddnehocaaGreatDoor
open Go.RowKit Go.Maps Go.Lib

set_option maxHeartbeats 4000000 in
set_option maxRecDepth 100000 in
theorem refend_any (w : World) (b off c : Nat) (t : List Nd) (hN : NodesIn w b off t) (O : Ords t) (hl : t.length ≤ 16384) (k : Nat) (hk : k < t.length) :
    Calls Tryz.prog 32 #[.slice (some ⟨b, off, none⟩) t.length c, .int .i64 (k : Int)] w fun e w' => e = .returned (.int .i64 (endOf t k : Nat)) ∧ w' = w := by
  have E := endOf_is (t := t) (k := (k : Int)) (by omega) (by omega)
  obtain ⟨e, he⟩ : ∃ e, endOf t k = e := ⟨_, rfl⟩
  have HB := Hid.mk (fun i hi => refBelow_any w b off c t hN O i k hi)
  have HE := Hid.mk (fun i (hi : i < t.length) => below_end O hi hk)
  rw [he] at E ⊢
  rw [he] at HE
  have hgt := E.gt
  have hle := E.le
  have hl' : (t.length : Int) ≤ 16384 := by omega
  clear he hN O E
  go_enter Tryz.func32, Tryz.ntmps32
  go_wp2
  go_loopw [5] (fun s5 wr => ∃ i : Nat, s5 = .int .i64 (i : Int) ∧ w = wr ∧ k < i ∧ i ≤ e) (fun s5 _ => t.length - (RowKit.intOf s5).toNat)
  case atStart => exact ⟨k + 1, by go_num, rfl, by omega, by omega⟩
  case round =>
    obtain ⟨i, rfl, rfl, hki, hie⟩ := hrel
    have hi0 : (0 : Int) ≤ (i : Int) := by omega
    by_cases hil : i < t.length
    · have hil' : (i : Int) < (t.length : Int) := by omega
      have hb := HB.out i hil
      by_cases hlt : i < e
      · rw [(HE.out i hil).2 ⟨by omega, hlt⟩] at hb
        have CB := Hid.mk hb
        clear hb
        go_wp2_with (go_at_call 49; refine CB.out.mono ?_; rintro e w6 ⟨rfl, hw6⟩; have hw7 := hw6.symm; clear hw6; subst hw7)
        exact ⟨⟨i + 1, by go_num, trivial, by omega, by omega⟩, by simp [RowKit.intOf]; omega⟩
      · have hf : belowB t i k = false := by
          cases hq : belowB t i k
          · rfl
          · exact absurd ((HE.out i hil).1 hq).2 hlt
        rw [hf] at hb
        have CB := Hid.mk hb
        obtain rfl : i = e := by omega
        clear hb hf
        go_wp2_with (go_at_call 49; refine CB.out.mono ?_; rintro e w6 ⟨rfl, hw6⟩; have hw7 := hw6.symm; clear hw6; subst hw7)
        go_ret
        exact ⟨rfl, rfl⟩
    · have hil' : ¬ (i : Int) < (t.length : Int) := by omega
      obtain rfl : i = e := by omega
      have hd : decide ((i : Int) < (t.length : Int)) = false := decide_eq_false hil'
      go_wp2_with fail
      go_ret
      exact ⟨rfl, rfl⟩
theorem has_iff {t : List Nd} {k : Int} (h : hasB t k = true) : ∃ m : Nat, k = (m : Int) ∧ m < t.length ∧ t.length ≤ 16384 ∧ Good t := by
  unfold hasB at h
  rw [Bool.and_eq_true, decide_eq_true_eq] at h
  exact ⟨k.toNat, by omega, by omega, ok_len h.2, ok_good h.2⟩
def kidsS (t : List Nd) (k : Int) : List Nat := if hasB t k = true then kidsL t k else []
def attrsS (t : List Nd) (k : Int) : List Nat := if hasB t k = true then attrsL k.toNat (attrEnds t k.toNat) else []
set_option maxHeartbeats 4000000 in
theorem Kids_any (w : World) (L : LaidW w) (ad : Option Addr) (n c : Nat) (t : List Nd) (hn : t.length = n) (hN : NodesAt w ad t) (hS : Sane t) (k : Int) :
    Calls Tryz.prog 7 #[.slice ad n c, .int .i64 k] w fun e w' => (∃ v, e = .returned v ∧ Ints w w' v (kidsS t k)) ∧ Fr [] w w' := by
  unfold kidsS
  cases hh : hasB t k with
  | true =>
    obtain ⟨m, rfl, hm, _, _⟩ := has_iff hh
    subst hn
    obtain ⟨b, off, rfl, hI⟩ := hN.in (by omega)
    rw [if_pos rfl]
    exact Kids_at w b off c t m (At.mk' L hI hS hh)
  | false =>
    have cH := Hid.mk (has_any w L ad c n t hn hN hS k)
    rw [hh] at cH
    rw [if_neg (by decide)]
    clear hN hS L hh
    go_enter Tryz.func7, Tryz.ntmps7
    go_wp2_with (go_at_call 25; refine cH.out.mono ?_; rintro e w5 ⟨rfl, f5⟩)
    go_ret
    exact ⟨⟨_, rfl, Ints.nil _ _⟩, f5⟩
set_option maxHeartbeats 4000000 in
theorem Attrs_any (w : World) (L : LaidW w) (ad : Option Addr) (n c : Nat) (t : List Nd) (hn : t.length = n) (hN : NodesAt w ad t) (hS : Sane t) (k : Int) :
    Calls Tryz.prog 9 #[.slice ad n c, .int .i64 k] w fun e w' => (∃ v, e = .returned v ∧ Ints w w' v (attrsS t k)) ∧ Fr [] w w' := by
  unfold attrsS
  cases hh : hasB t k with
  | true =>
    obtain ⟨m, rfl, hm, _, _⟩ := has_iff hh
    subst hn
    obtain ⟨b, off, rfl, hI⟩ := hN.in (by omega)
    rw [if_pos rfl, Int.toNat_natCast]
    exact Attrs_at w b off c t m (At.mk' L hI hS hh)
  | false =>
    have cH := Hid.mk (has_any w L ad c n t hn hN hS k)
    rw [hh] at cH
    rw [if_neg (by decide)]
    clear hN hS L hh
    go_enter Tryz.func9, Tryz.ntmps9
    go_wp2_with (go_at_call 25; refine cH.out.mono ?_; rintro e w5 ⟨rfl, f5⟩)
    go_ret
    exact ⟨⟨_, rfl, Ints.nil _ _⟩, f5⟩
set_option maxHeartbeats 4000000 in
theorem refKids_any (w : World) (ad : Option Addr) (n c : Nat) (t : List Nd) (hn : t.length = n) (hN : NodesAt w ad t) (hl : n ≤ 300) (hZ : Short t) (k : Int) :
    Calls Tryz.prog 8 #[.slice ad n c, .int .i64 k] w fun e w' => (∃ v, e = .returned v ∧ Ints w w' v (kidsS t k)) ∧ Fr [] w w' := by
  unfold kidsS
  have cH := Hid.mk (refPlace_any w ad c n t hn hN hl hZ k)
  cases hh : hasB t k with
  | true =>
    rw [hh] at cH
    obtain ⟨m, rfl, hm, _, G⟩ := has_iff hh
    subst hn
    obtain ⟨b, off, rfl, hI⟩ := hN.in (by omega)
    rw [if_pos rfl]
    have cW := Hid.mk (fun w' (f : Fr [] w w') => refWith_any w' b off c t (hI.kept f (by simp)) (by omega) (m : Int) false)
    rw [with_kids G.ords (by omega) (by omega)] at cW
    clear hN hI hh hZ G
    go_enter Tryz.func8, Tryz.ntmps8
    go_wp2_with (first
      | (go_at_call 28; refine cH.out.mono ?_; rintro e w5 ⟨rfl, f5⟩)
      | (go_at_call 29; refine (cW.out _ f5).mono ?_; rintro e w6 ⟨⟨v, rfl, hv⟩, f6⟩))
    go_ret
    exact ⟨⟨v, rfl, hv.from f5⟩, f5.trans f6⟩
  | false =>
    rw [hh] at cH
    rw [if_neg (by decide)]
    clear hN hh hZ
    go_enter Tryz.func8, Tryz.ntmps8
    go_wp2_with (go_at_call 28; refine cH.out.mono ?_; rintro e w5 ⟨rfl, f5⟩)
    go_ret
    exact ⟨⟨_, rfl, Ints.nil _ _⟩, f5⟩
set_option maxHeartbeats 4000000 in
theorem refAttrs_any (w : World) (ad : Option Addr) (n c : Nat) (t : List Nd) (hn : t.length = n) (hN : NodesAt w ad t) (hl : n ≤ 300) (hZ : Short t) (k : Int) :
    Calls Tryz.prog 10 #[.slice ad n c, .int .i64 k] w fun e w' => (∃ v, e = .returned v ∧ Ints w w' v (attrsS t k)) ∧ Fr [] w w' := by
  unfold attrsS
  have cH := Hid.mk (refPlace_any w ad c n t hn hN hl hZ k)
  cases hh : hasB t k with
  | true =>
    rw [hh] at cH
    obtain ⟨m, rfl, hm, _, G⟩ := has_iff hh
    subst hn
    obtain ⟨b, off, rfl, hI⟩ := hN.in (by omega)
    rw [if_pos rfl, Int.toNat_natCast]
    have cW := Hid.mk (fun w' (f : Fr [] w w') => refWith_any w' b off c t (hI.kept f (by simp)) (by omega) (m : Int) true)
    rw [attrs_eq G hm (attrEnds_is hm)] at cW
    clear hN hI hh hZ G
    go_enter Tryz.func10, Tryz.ntmps10
    go_wp2_with (first
      | (go_at_call 28; refine cH.out.mono ?_; rintro e w5 ⟨rfl, f5⟩)
      | (go_at_call 29; refine (cW.out _ f5).mono ?_; rintro e w6 ⟨⟨v, rfl, hv⟩, f6⟩))
    go_ret
    exact ⟨⟨v, rfl, hv.from f5⟩, f5.trans f6⟩
  | false =>
    rw [hh] at cH
    rw [if_neg (by decide)]
    clear hN hh hZ
    go_enter Tryz.func10, Tryz.ntmps10
    go_wp2_with (go_at_call 28; refine cH.out.mono ?_; rintro e w5 ⟨rfl, f5⟩)
    go_ret
    exact ⟨⟨_, rfl, Ints.nil _ _⟩, f5⟩
set_option maxHeartbeats 4000000 in
theorem refEnd_any (w : World) (ad : Option Addr) (n c : Nat) (t : List Nd) (hn : t.length = n) (hN : NodesAt w ad t) (hl : n ≤ 300) (hZ : Short t) (k : Int) :
    Calls Tryz.prog 12 #[.slice ad n c, .int .i64 k] w fun e w' => e = .returned (.int .i64 (endS t k : Nat)) ∧ Fr [] w w' := by
  unfold endS
  have cH := Hid.mk (refPlace_any w ad c n t hn hN hl hZ k)
  cases hh : hasB t k with
  | true =>
    rw [hh] at cH
    obtain ⟨m, rfl, hm, _, G⟩ := has_iff hh
    subst hn
    obtain ⟨b, off, rfl, hI⟩ := hN.in (by omega)
    rw [if_pos rfl, Int.toNat_natCast]
    have cW := Hid.mk (fun w' (f : Fr [] w w') => refend_any w' b off c t (hI.kept f (by simp)) G.ords (by omega) m hm)
    generalize endOf t m = E at cW
    clear hN hI hh hZ G
    go_enter Tryz.func12, Tryz.ntmps12
    go_wp2_with (first
      | (go_at_call 28; refine cH.out.mono ?_; rintro e w5 ⟨rfl, f5⟩)
      | (go_at_call 32; refine (cW.out _ f5).mono ?_; rintro e w6 ⟨rfl, hw6⟩; have hw7 := hw6.symm; clear hw6; subst hw7))
    go_ret
    exact ⟨rfl, f5⟩
  | false =>
    rw [hh] at cH
    rw [if_neg (by decide)]
    clear hN hh hZ
    go_enter Tryz.func12, Tryz.ntmps12
    go_wp2_with (go_at_call 28; refine cH.out.mono ?_; rintro e w5 ⟨rfl, f5⟩)
    go_ret
    exact ⟨rfl, f5⟩
end Go.Proofs.YtdfgmdddnehocaaGreatDoor

namespace Go.Proofs.YtdfgmdddnehocaaGreatDoor
open Go.RowKit Go.Maps Go.Lib

/-! ### rows of bytes that are owned -/
def BytesO (w0 w : World) (v : Value) (l : List UInt8) : Prop := w.ownsRow w0.heap.size 5 1 v l.length (arr l).toList
theorem BytesO.nil (w0 w : World) : BytesO w0 w (.slice none 0 0) [] := World.ownsRow_nil w _ 5 1
theorem BytesO.shape {w0 w : World} {v : Value} {l : List UInt8} (h : BytesO w0 w v l) : ∃ ad cap, v = .slice ad l.length cap ∧ BytesAt w ad l ∧ (ad = none ∨ ∃ b off, ad = some ⟨b, off, none⟩) := by
  rcases h.2 with ⟨rfl, hn⟩ | ⟨g, cap, cur, rfl, hb, hg, hnc, _, hcs, ht⟩
  · have : l = [] := List.eq_nil_of_length_eq_zero hn
    subst this
    exact ⟨none, 0, rfl, BytesAt.nil _ _, Or.inl rfl⟩
  · refine ⟨_, cap, rfl, fun j v hv => ⟨g, 0, rfl, ?_⟩, Or.inr ⟨g, 0, rfl⟩⟩
    have hj : j < l.length := by have := (List.getElem?_eq_some_iff.1 hv).1; simpa [arr] using this
    rw [Nat.zero_add, cell_of_row w g j _ _ _ hg]
    rw [← ht, List.getElem?_take, if_pos (by omega)] at hv
    simpa using hv
theorem BytesO.shape' {w0 w : World} {v : Value} {l : List UInt8} (h : BytesO w0 w v l) : ∃ ad n cap, v = .slice ad n cap ∧ Hid (l.length = n) ∧ Hid (BytesAt w ad l) ∧ Hid (ad = none ∨ ∃ b off, ad = some ⟨b, off, none⟩) := by
  obtain ⟨ad, cap, rfl, h1, h2⟩ := h.shape
  exact ⟨ad, _, cap, rfl, Hid.mk rfl, Hid.mk h1, Hid.mk h2⟩
theorem textB_far {x : Nat} (h : x ≤ 300) : x * 65536 + 65536 ≤ 140737488355328 := by omega
theorem textB_len {t : List Nd} (G : Good t) {m i : Nat} (h : i ≤ t.length) : (((textsL t m i).map bl).flatten).length ≤ (i - m) * 65536 := by
  unfold textsL
  have h1 := flat_len t G ((List.range' m (i - m)).filter (fun i => decide (knd t i = 4))) (fun i hi => by have := List.mem_range'_1.1 (List.mem_filter.1 hi).1; omega)
  have h2 : ((List.range' m (i - m)).filter (fun i => decide (knd t i = 4))).length ≤ i - m := Nat.le_trans (List.length_filter_le _ _) (by rw [List.length_range']; omega)
  exact Nat.le_trans h1 (Nat.mul_le_mul_right _ h2)
section
variable {ops : Array Oper} {rest : List Oper} {o : Oper} {a : Act} {w : World} {Q : Exit → Act → World → Prop}
theorem wp_appStr (hgd : o.guard = none) (s x : Operand) (ho : o.op = .call { callee := .builtin .append, args := #[s, x], argTypes := #[51, 9] }) (w0 : World) (v : Value) (l : List UInt8) (hs : a.eval s = v) (hown : BytesO w0 w v l) (hw : w0.heap.size ≤ w.heap.size) (t : ByteArray) (hx : a.eval x = .string t) (hm : l.length + t.size ≤ 140737488355328) (f0 : Fr [] w0 w)
    (h : ∀ v' w', BytesO w0 w' v' (l ++ bl t) → Fr [] w0 w' → wpList Tryz.prog ops Q rest (a.put o.dst v') w') : wpList Tryz.prog ops Q (o :: rest) a w := by
  obtain ⟨i, hi, hz, hsz, hb⟩ := info5'
  refine Lib.wpList_append_own_string w hgd s x 51 9 ho w0.heap.size 5 i Tryz.underlying51 Tryz.underlying9 hi hz hsz hb v l.length (arr l).toList hs hown t hx (by unfold maxLen; omega) (by omega) hw ?_
  intro v' w' hown' hgr hnil
  refine h v' w' ?_ (f0.grown hgr (fun j e hj => ?_))
  · show w'.ownsRow w0.heap.size 5 1 v' (l ++ bl t).length (arr (l ++ bl t)).toList
    rw [List.length_append, bl_length, ← arr_append]
    have e0 : Lib.strCells t = (arr (bl t)).toList := by simp [Lib.strCells, arr, bl]
    rw [← e0]
    exact hown'
  · have := (hown.lt j e).1
    omega
end
set_option maxHeartbeats 8000000 in
set_option maxRecDepth 100000 in
theorem refText_any (w : World) (ad : Option Addr) (n c : Nat) (t : List Nd) (hn : t.length = n) (hN : NodesAt w ad t) (hl : n ≤ 300) (hZ : Short t) (k : Int) :
    Calls Tryz.prog 14 #[.slice ad n c, .int .i64 k] w fun e w' => e = .returned (.string (mkS (textS t k))) ∧ Fr [] w w' := by
  unfold textS
  have cH := Hid.mk (refPlace_any w ad c n t hn hN hl hZ k)
  cases hh : hasB t k with
  | false =>
    rw [hh] at cH
    rw [if_neg (by decide)]
    clear hN hh hZ
    go_enter Tryz.func14, Tryz.ntmps14
    go_wp2_with (go_at_call 28; refine cH.out.mono ?_; rintro e w5 ⟨rfl, f5⟩)
    go_ret
    exact ⟨rfl, f5⟩
  | true =>
    rw [hh] at cH
    obtain ⟨m, rfl, hm, _, G⟩ := has_iff hh
    subst hn
    obtain ⟨b, off, rfl, hI⟩ := hN.in (by omega)
    rw [if_pos rfl, Int.toNat_natCast]
    have HI := Hid.mk hI
    have HG := Hid.mk G
    have hm' : (m : Int) < (t.length : Int) := by omega
    have hm0 : (0 : Int) ≤ (m : Int) := by omega
    have cW := Hid.mk (fun w' (f : Fr [] w w') => refend_any w' b off c t (hI.kept f (by simp)) G.ords (by omega) m hm)
    have hEl : endOf t m ≤ t.length := end_len t m hm
    have hEg : m < endOf t m := by have := (endOf_is (t := t) (k := (m : Int)) (by omega) (by omega)).gt; omega
    generalize endOf t m = E at cW hEl hEg
    clear hN hI hh hZ G
    by_cases h12 : knd t m = 1 ∨ knd t m = 2
    · rw [if_pos h12]
      have hk1 : ((((knd t m : Nat) : Int) != 1) && (((knd t m : Nat) : Int) != 2)) = false := by
        rcases h12 with h | h <;> rw [h] <;> rfl
      have hb1 : ((((knd t m : Nat) : Int) != 1) = false) ∨ ((((knd t m : Nat) : Int) != 1) = true ∧ (((knd t m : Nat) : Int) != 2) = false) := by
        rcases h12 with h | h <;> rw [h]
        · exact Or.inl rfl
        · exact Or.inr ⟨rfl, rfl⟩
      have HKK := Hid.mk (fun w' (f : Fr [] w w') => HI.out.kept f (by simp) m hm)
      generalize vlu t m = VL at HKK
      generalize nam t m = NM at HKK
      generalize par t m = PP at HKK
      rcases hb1 with hb1 | ⟨hb1, hb2⟩
      · generalize knd t m = KK at HKK hb1
        clear h12 hk1
        go_enter Tryz.func14, Tryz.ntmps14
        go_wp2_with (first
          | (go_at_call 28; refine cH.out.mono ?_; rintro e w5 ⟨rfl, f5⟩; obtain ⟨c0, c1, c2, c3⟩ := HKK.out _ f5; clear c1 c2 c3)
          | (go_at_call 32; fail)
          | go_in)
        clear c0
        have F5 := Hid.mk f5
        clear f5
        go_loopw [5, 6] (fun s5 s6 wr => ∃ (i : Nat) (av : Option Addr) (cv nv : Nat), s6 = .int .i64 (i : Int) ∧ s5 = .slice av nv cv ∧ m ≤ i ∧ i ≤ E ∧ Hid (BytesO w wr (.slice av nv cv) ((textsL t m i).map bl).flatten) ∧ Hid (Fr [] w wr)) (fun _ s6 _ => E - (RowKit.intOf s6).toNat)
        case atStart => exact ⟨m, none, 0, 0, rfl, rfl, Nat.le_refl _, by omega, (by show BytesO _ _ _ ((textsL t m m).map bl).flatten; unfold textsL; rw [Nat.sub_self]; exact BytesO.nil _ _), F5⟩
        case round =>
          obtain ⟨i, av, cv, nv, rfl, rfl, hmi, hiE, hO, hF⟩ := hrel
          have hi0 : (0 : Int) ≤ (i : Int) := by omega
          have CE := Hid.mk (cW.out wr hF.out)
          by_cases hlt : i < E
          · have hlt' : (i : Int) < (E : Int) := by omega
            have hil : (i : Int) < (t.length : Int) := by omega
            obtain ⟨c0, c1, c2, c3⟩ := HI.out.kept hF.out (by simp) i (by omega)
            have hst := textsL_step (t := t) (x := m) (y := i) hmi
            have hb := textB_len HG.out (m := m) (i := i) (by omega)
            have hv : (vlu t i).size ≤ 65536 := (HG.out i (by omega)).2.1.2
            generalize nam t i = NM at c1
            generalize vlu t i = VL at c2 hst hv
            generalize par t i = p at c3
            clear c1 c3
            by_cases h4 : knd t i = 4
            · rw [if_pos h4] at hst
              rw [h4] at c0
              have HS := Hid.mk (show ((textsL t m (i + 1)).map bl).flatten = ((textsL t m i).map bl).flatten ++ bl VL from by rw [hst]; simp)
              have HB := Hid.mk (show (((textsL t m i).map bl).flatten).length + VL.size ≤ 140737488355328 from Nat.le_trans (Nat.add_le_add hb hv) (textB_far (by omega)))
              clear hst h4 hb hv
              go_wp2_with (first
                | (go_at_call 32; refine CE.out.mono ?_; rintro e w6 ⟨rfl, hw6⟩; have hw7 := hw6.symm; clear hw6; subst hw7)
                | (refine wp_appStr rfl _ _ rfl w _ _ rfl hO.out hF.out.size VL rfl HB.out hF.out ?_; intro v' w' hO' f'; obtain ⟨ad', n', cap', rfl, _, _, _⟩ := hO'.shape')
                | go_in)
              exact ⟨⟨i + 1, ad', cap', n', by go_num, rfl, by omega, by omega, by show BytesO _ _ _ ((textsL t m (i + 1)).map bl).flatten; rw [HS.out]; exact hO', f'⟩, by simp [RowKit.intOf]; omega⟩
            · rw [if_neg h4, List.append_nil] at hst
              have HS := Hid.mk hst
              have h4b : ((((knd t i : Nat)) : Int) == 4) = false := by rw [beq_eq_false_iff_ne]; omega
              generalize knd t i = K at c0 h4b
              clear hst h4 hb hv
              go_wp2_with (first
                | (go_at_call 32; refine CE.out.mono ?_; rintro e w6 ⟨rfl, hw6⟩; have hw7 := hw6.symm; clear hw6; subst hw7)
                | go_in)
              exact ⟨⟨i + 1, av, cv, nv, by go_num, rfl, by omega, by omega, by show BytesO _ _ _ ((textsL t m (i + 1)).map bl).flatten; rw [HS.out]; exact hO.out, hF⟩, by simp [RowKit.intOf]; omega⟩
          · obtain rfl : i = E := by omega
            have hlt' : ¬ (i : Int) < (i : Int) := by omega
            obtain ⟨ad', n', cap', e', hln, hba, hpl⟩ := hO.out.shape'
            cases e'
            go_wp2_with (first
              | (go_at_call 32; refine CE.out.mono ?_; rintro e w6 ⟨rfl, hw6⟩; have hw7 := hw6.symm; clear hw6; subst hw7)
              | (refine wp_conv rfl _ rfl ((textsL t m i).map bl).flatten av nv cv rfl hln.out hba.out (fun _ => hpl.out) ?_)
              | go_in)
            go_ret
            exact ⟨rfl, hF.out⟩
      · generalize knd t m = KK at HKK hb1 hb2
        clear h12 hk1
        go_enter Tryz.func14, Tryz.ntmps14
        go_wp2_with (first
          | (go_at_call 28; refine cH.out.mono ?_; rintro e w5 ⟨rfl, f5⟩; obtain ⟨c0, c1, c2, c3⟩ := HKK.out _ f5; clear c1 c2 c3)
          | (go_at_call 32; fail)
          | go_in)
        clear c0
        have F5 := Hid.mk f5
        clear f5
        go_loopw [5, 6] (fun s5 s6 wr => ∃ (i : Nat) (av : Option Addr) (cv nv : Nat), s6 = .int .i64 (i : Int) ∧ s5 = .slice av nv cv ∧ m ≤ i ∧ i ≤ E ∧ Hid (BytesO w wr (.slice av nv cv) ((textsL t m i).map bl).flatten) ∧ Hid (Fr [] w wr)) (fun _ s6 _ => E - (RowKit.intOf s6).toNat)
        case atStart => exact ⟨m, none, 0, 0, rfl, rfl, Nat.le_refl _, by omega, (by show BytesO _ _ _ ((textsL t m m).map bl).flatten; unfold textsL; rw [Nat.sub_self]; exact BytesO.nil _ _), F5⟩
        case round =>
          obtain ⟨i, av, cv, nv, rfl, rfl, hmi, hiE, hO, hF⟩ := hrel
          have hi0 : (0 : Int) ≤ (i : Int) := by omega
          have CE := Hid.mk (cW.out wr hF.out)
          by_cases hlt : i < E
          · have hlt' : (i : Int) < (E : Int) := by omega
            have hil : (i : Int) < (t.length : Int) := by omega
            obtain ⟨c0, c1, c2, c3⟩ := HI.out.kept hF.out (by simp) i (by omega)
            have hst := textsL_step (t := t) (x := m) (y := i) hmi
            have hb := textB_len HG.out (m := m) (i := i) (by omega)
            have hv : (vlu t i).size ≤ 65536 := (HG.out i (by omega)).2.1.2
            generalize nam t i = NM at c1
            generalize vlu t i = VL at c2 hst hv
            generalize par t i = p at c3
            clear c1 c3
            by_cases h4 : knd t i = 4
            · rw [if_pos h4] at hst
              rw [h4] at c0
              have HS := Hid.mk (show ((textsL t m (i + 1)).map bl).flatten = ((textsL t m i).map bl).flatten ++ bl VL from by rw [hst]; simp)
              have HB := Hid.mk (show (((textsL t m i).map bl).flatten).length + VL.size ≤ 140737488355328 from Nat.le_trans (Nat.add_le_add hb hv) (textB_far (by omega)))
              clear hst h4 hb hv
              go_wp2_with (first
                | (go_at_call 32; refine CE.out.mono ?_; rintro e w6 ⟨rfl, hw6⟩; have hw7 := hw6.symm; clear hw6; subst hw7)
                | (refine wp_appStr rfl _ _ rfl w _ _ rfl hO.out hF.out.size VL rfl HB.out hF.out ?_; intro v' w' hO' f'; obtain ⟨ad', n', cap', rfl, _, _, _⟩ := hO'.shape')
                | go_in)
              exact ⟨⟨i + 1, ad', cap', n', by go_num, rfl, by omega, by omega, by show BytesO _ _ _ ((textsL t m (i + 1)).map bl).flatten; rw [HS.out]; exact hO', f'⟩, by simp [RowKit.intOf]; omega⟩
            · rw [if_neg h4, List.append_nil] at hst
              have HS := Hid.mk hst
              have h4b : ((((knd t i : Nat)) : Int) == 4) = false := by rw [beq_eq_false_iff_ne]; omega
              generalize knd t i = K at c0 h4b
              clear hst h4 hb hv
              go_wp2_with (first
                | (go_at_call 32; refine CE.out.mono ?_; rintro e w6 ⟨rfl, hw6⟩; have hw7 := hw6.symm; clear hw6; subst hw7)
                | go_in)
              exact ⟨⟨i + 1, av, cv, nv, by go_num, rfl, by omega, by omega, by show BytesO _ _ _ ((textsL t m (i + 1)).map bl).flatten; rw [HS.out]; exact hO.out, hF⟩, by simp [RowKit.intOf]; omega⟩
          · obtain rfl : i = E := by omega
            have hlt' : ¬ (i : Int) < (i : Int) := by omega
            obtain ⟨ad', n', cap', e', hln, hba, hpl⟩ := hO.out.shape'
            cases e'
            go_wp2_with (first
              | (go_at_call 32; refine CE.out.mono ?_; rintro e w6 ⟨rfl, hw6⟩; have hw7 := hw6.symm; clear hw6; subst hw7)
              | (refine wp_conv rfl _ rfl ((textsL t m i).map bl).flatten av nv cv rfl hln.out hba.out (fun _ => hpl.out) ?_)
              | go_in)
            go_ret
            exact ⟨rfl, hF.out⟩
    · rw [if_neg h12]
      have hb1 : (((knd t m : Nat) : Int) != 1) = true := by rw [bne_iff_ne]; omega
      have hb2 : (((knd t m : Nat) : Int) != 2) = true := by rw [bne_iff_ne]; omega
      have HKK := Hid.mk (fun w' (f : Fr [] w w') => HI.out.kept f (by simp) m hm)
      generalize vlu t m = VL at HKK
      generalize nam t m = NM at HKK
      generalize par t m = PP at HKK
      generalize knd t m = KK at HKK hb1 hb2
      clear h12
      go_enter Tryz.func14, Tryz.ntmps14
      go_wp2_with (first
        | (go_at_call 28; refine cH.out.mono ?_; rintro e w5 ⟨rfl, f5⟩; obtain ⟨c0, c1, c2, c3⟩ := HKK.out _ f5; clear c1 c3))
      go_ret
      exact ⟨by rw [mkS_bl]; rfl, f5⟩
end Go.Proofs.YtdfgmdddnehocaaGreatDoor

namespace Go.Proofs.YtdfgmdddnehocaaGreatDoor
open Go.RowKit Go.Maps Go.Lib

theorem midP_nodes {w : World} {g : Nat} {x : Nd} (h : Cells w g 41 (ndC x.kind x.name x.value x.parent)) : NodesIn w g 0 [x] := by
  intro i hi
  obtain rfl : i = 0 := by simpa using hi
  have h0 := h.cell 0
  have h1 := h.cell 1
  have h2 := h.cell 2
  have h3 := h.cell 3
  exact ⟨h0, h1, h2, h3⟩
theorem Nodes.keptG {w0 w w' : World} {v : Value} {t : List Nd} {L : List Nat} (h : Nodes w0 w v t) (k : Fr L w w') (hL : ∀ g, v.ownBlock = some g → g ∉ L) : Nodes w0 w' v t := by
  obtain ⟨h1, h2⟩ := h
  refine ⟨h1, ?_⟩
  rcases h2 with hn | ⟨g, cap, cur, rfl, hb, hg, r⟩
  · exact Or.inl hn
  · exact Or.inr ⟨g, cap, cur, rfl, hb, k.same (hL g rfl) hg, r⟩
theorem setC {w : World} {g K : Nat} {NM VL : ByteArray} {p : Int} (h : Cells w g 41 (ndC K NM VL p)) (q : Int) : Cells (w.setCell ⟨g, 3, none⟩ (.int .i64 q)) g 41 (ndC K NM VL q) := heap_setCell_same w g 3 _ _ _ h
/-- What a node's copy, its parent set, keeps. -/
theorem copy_kept {w0 wr wa wb : World} {ga nv cv : Nat} {av : Option Addr} {l : List Nd} (F : Fr [] w0 wr) (O : Nodes w0 wr (.slice av nv cv) l) (hga : wr.heap.size ≤ ga) (fa : Fr [] wr wa) (fb : Fr [ga] wa wb) (q : Int) :
    Fr [] w0 (wb.setCell ⟨ga, 3, none⟩ (.int .i64 q)) ∧ Nodes w0 (wb.setCell ⟨ga, 3, none⟩ (.int .i64 q)) (.slice av nv cv) l := by
  have hs := F.size
  have f1 : Fr [ga] wr (wb.setCell ⟨ga, 3, none⟩ (.int .i64 q)) := ((fa.mono (by simp)).trans fb).setCell _ _ (by simp)
  refine ⟨F.then f1 (fun j hj hm => by simp at hm; omega), O.keptG f1 (fun g hg => ?_)⟩
  have := (O.lt g hg).2
  simp
  omega
theorem node_lit {w : World} (x : Nd) : NodesIn (w.alloc (.cells (ndC x.kind x.name x.value x.parent) 41)) w.heap.size 0 [x] := midP_nodes (heap_alloc_new w _)
theorem Nodes.shape' {w0 w : World} {v : Value} {t : List Nd} (h : Nodes w0 w v t) : ∃ ad n cap, v = .slice ad n cap ∧ Hid (t.length = n ∧ n ≤ cap ∧ NodesAt w ad t) := by
  obtain ⟨ad, cap, rfl, h1, h2, _⟩ := h.shape
  exact ⟨ad, _, cap, rfl, Hid.mk ⟨rfl, h1, h2⟩⟩
theorem setCell_size (w : World) (x : Addr) (v : Value) : (w.setCell x v).heap.size = w.heap.size := by simp [World.setCell]
theorem node_lit' {w : World} {n : Nat} (h : w.heap.size = n) (x : Nd) : NodesIn (w.alloc (.cells (ndC x.kind x.name x.value x.parent) 41)) n 0 [x] := by subst h; exact node_lit x
theorem pstep_snoc (t : List Nd) (m i : Nat) : pstep t m (i + 1) (i + 1) = pstep t m i i ++ [partNd t m i] := by
  unfold pstep
  rw [List.range_succ, List.map_append]
  congr 1
  · refine List.map_congr_left fun j hj => ?_
    have : j < i := by simpa using hj
    rw [if_pos (by omega), if_pos this]
  · simp
set_option maxHeartbeats 8000000 in
set_option maxRecDepth 100000 in
theorem refPart_any (w : World) (ad : Option Addr) (n c : Nat) (t : List Nd) (hn : t.length = n) (hN : NodesAt w ad t) (hl : n ≤ 300) (hZ : Short t) (k : Int) :
    Calls Tryz.prog 17 #[.slice ad n c, .int .i64 k] w fun e w' => (∃ v, e = .returned v ∧ Nodes w w' v (partS t k)) ∧ Fr [] w w' := by
  unfold partS
  have cH := Hid.mk (refPlace_any w ad c n t hn hN hl hZ k)
  cases hh : hasB t k with
  | false =>
    rw [hh] at cH
    rw [if_neg (by decide)]
    clear hN hh hZ
    go_enter Tryz.func17, Tryz.ntmps17
    go_wp2_with (go_at_call 28; refine cH.out.mono ?_; rintro e w5 ⟨rfl, f5⟩)
    go_ret
    exact ⟨⟨_, rfl, World.ownsRow_nil _ _ _ _⟩, f5⟩
  | true =>
    rw [hh] at cH
    obtain ⟨m, rfl, hm, _, G⟩ := has_iff hh
    subst hn
    obtain ⟨b, off, rfl, hI⟩ := hN.in (by omega)
    rw [if_pos rfl, Int.toNat_natCast]
    have HI := Hid.mk hI
    have HG := Hid.mk G
    have hm' : (m : Int) < (t.length : Int) := by omega
    have hm0 : (0 : Int) ≤ (m : Int) := by omega
    have cW := Hid.mk (fun w' (f : Fr [] w w') => refend_any w' b off c t (hI.kept f (by simp)) G.ords (by omega) m hm)
    have hEl : endOf t m ≤ t.length := end_len t m hm
    have hEg : m < endOf t m := by have := (endOf_is (t := t) (k := (m : Int)) (by omega) (by omega)).gt; omega
    have HPA := Hid.mk (pstep_all t m)
    have HEE := Hid.mk (endOf_is (t := t) (k := (m : Int)) (by omega) (by omega))
    generalize endOf t m = E at cW hEl hEg HPA HEE
    clear hN hI hh hZ G
    go_enter Tryz.func17, Tryz.ntmps17
    go_wp2_with (first
      | (go_at_call 28; refine cH.out.mono ?_; rintro e w5 ⟨rfl, f5⟩)
      | (go_at_call 32; fail)
      | go_in)
    have F5 := Hid.mk f5
    clear f5
    go_loopw [5, 6] (fun s5 s6 wr => ∃ (i : Nat) (av : Option Addr) (cv nv : Nat), s6 = .int .i64 ((m + i : Nat) : Int) ∧ s5 = .slice av nv cv ∧ m + i ≤ E ∧ Hid (Nodes w wr (.slice av nv cv) (pstep t m i i)) ∧ Hid (Fr [] w wr)) (fun _ s6 _ => E - (RowKit.intOf s6).toNat)
    case atStart => exact ⟨0, none, 0, 0, rfl, rfl, by omega, (by show Nodes _ _ _ (pstep t m 0 0); exact World.ownsRow_nil _ _ _ _), F5⟩
    case round =>
      obtain ⟨i, av, cv, nv, rfl, rfl, hiE, hO, hF⟩ := hrel
      have CE := Hid.mk (cW.out wr hF.out)
      obtain ⟨q, hq⟩ : ∃ q, q = m + i := ⟨_, rfl⟩
      rw [← hq]
      have HQ := Hid.mk hq
      have hi0 : (0 : Int) ≤ (q : Int) := by omega
      by_cases hlt : q < E
      · have hlt' : (q : Int) < (E : Int) := by omega
        have hil : (q : Int) < (t.length : Int) := by omega
        obtain ⟨c0, c1, c2, c3⟩ := HI.out.kept hF.out (by simp) q (by omega)
        have o := HG.out.ords q (by omega)
        have hp1 : -1 ≤ par t q := o.1
        have hp2 : par t q < 16384 := by have := o.2.1; omega
        have hps := Hid.mk (pstep_snoc t m i)
        have hpd : partNd t m i = ⟨knd t q, nam t q, vlu t q, if i = 0 then -1 else par t q - (m : Int)⟩ := by rw [hq]; rfl
        rw [hpd] at hps
        generalize nam t q = NM at c1 hps
        generalize vlu t q = VL at c2 hps
        generalize par t q = p at c3 hps hp1 hp2
        generalize knd t q = K at c0 hps
        have hwp : IntKind.i64.wrap (p - (m : Int)) = p - (m : Int) := by simp [IntKind.wrap, IntKind.bits, IntKind.signed]; omega
        have hil5 : i ≤ 300 := by omega
        clear o hpd hq
        by_cases h0 : i = 0
        · have hqm : ((q : Int) == (m : Int)) = true := by rw [beq_iff_eq]; have := HQ.out; omega
          rw [if_pos h0] at hps
          clear h0
          go_wp2_with (first
            | (go_at_call 32; refine CE.out.mono ?_; rintro e w6 ⟨rfl, hw6⟩; have hw7 := hw6.symm; clear hw6; subst hw7)
            | (refine wp_alloc 41 rfl rfl _ zeroN _ rfl ?_; intro wa ga hga hca fa)
            | (refine wp_storeC 41 rfl _ _ rfl ga _ (ndC K NM VL p) rfl rfl hca infoN rfl (ndC_one _ _ _ _) ?_; intro wb hcb fb; have n3 : wb.cell? ⟨ga, 3, none⟩ = some (.int .i64 p) := hcb.cell 3; have z3 := hcb.frozen 3; have hc1 := setC hcb (p - (m : Int)); have n4 : (wb.setCell ⟨ga, 3, none⟩ (.int .i64 (p - (m : Int)))).cell? ⟨ga, 3, none⟩ = some (.int .i64 (p - (m : Int))) := hc1.cell 3; have z4 := hc1.frozen 3; have hc2 := setC hc1 (-1); have KK := Hid.mk (copy_kept hF.out hO.out hga fa (fb.setCell ⟨ga, 3, none⟩ (.int .i64 (p - (m : Int))) (by simp)) (-1)); have j0 : ((wb.setCell ⟨ga, 3, none⟩ (.int .i64 (p - (m : Int)))).setCell ⟨ga, 3, none⟩ (.int .i64 (-1))).cell? ⟨ga, 0, none⟩ = some (.int .u8 (K : Int)) := hc2.cell 0; have j1 : ((wb.setCell ⟨ga, 3, none⟩ (.int .i64 (p - (m : Int)))).setCell ⟨ga, 3, none⟩ (.int .i64 (-1))).cell? ⟨ga, 1, none⟩ = some (.string NM) := hc2.cell 1; have j2 : ((wb.setCell ⟨ga, 3, none⟩ (.int .i64 (p - (m : Int)))).setCell ⟨ga, 3, none⟩ (.int .i64 (-1))).cell? ⟨ga, 2, none⟩ = some (.string VL) := hc2.cell 2; have j3 : ((wb.setCell ⟨ga, 3, none⟩ (.int .i64 (p - (m : Int)))).setCell ⟨ga, 3, none⟩ (.int .i64 (-1))).cell? ⟨ga, 3, none⟩ = some (.int .i64 (-1)) := hc2.cell 3; clear hca fa fb hcb hc1 hc2)
            | (refine wp_appN rfl _ _ rfl w (.slice av nv cv) (pstep t m i i) rfl (KK.out.2.kept0 ((Fr.refl _ _).alloc _)) (KK.out.1.alloc _).size _ 0 1 1 [⟨K, NM, VL, (-1)⟩] rfl (by omega) rfl (node_lit' (by rw [setCell_size, setCell_size]) ⟨K, NM, VL, (-1)⟩) (by rw [pstep_len]; omega) (KK.out.1.alloc _) ?_; intro v' w' hO' f'; obtain ⟨ad', n', cap', rfl, _⟩ := hO'.shape')
            | go_in)
          have e5 := HQ.out
          exact ⟨⟨i + 1, ad', cap', n', by congr 1; omega, rfl, by omega, by show Nodes _ _ _ (pstep t m (i + 1) (i + 1)); rw [hps.out]; exact hO', f'⟩, by simp [RowKit.intOf]; omega⟩
        · have hqm : ((q : Int) == (m : Int)) = false := by rw [beq_eq_false_iff_ne]; have := HQ.out; omega
          rw [if_neg h0] at hps
          clear h0
          go_wp2_with (first
            | (go_at_call 32; refine CE.out.mono ?_; rintro e w6 ⟨rfl, hw6⟩; have hw7 := hw6.symm; clear hw6; subst hw7)
            | (refine wp_alloc 41 rfl rfl _ zeroN _ rfl ?_; intro wa ga hga hca fa)
            | (refine wp_storeC 41 rfl _ _ rfl ga _ (ndC K NM VL p) rfl rfl hca infoN rfl (ndC_one _ _ _ _) ?_; intro wb hcb fb; have n3 : wb.cell? ⟨ga, 3, none⟩ = some (.int .i64 p) := hcb.cell 3; have z3 := hcb.frozen 3; have hc1 := setC hcb (p - (m : Int)); have hc2 := hc1; have KK := Hid.mk (copy_kept hF.out hO.out hga fa fb (p - (m : Int))); have j0 : (wb.setCell ⟨ga, 3, none⟩ (.int .i64 (p - (m : Int)))).cell? ⟨ga, 0, none⟩ = some (.int .u8 (K : Int)) := hc2.cell 0; have j1 : (wb.setCell ⟨ga, 3, none⟩ (.int .i64 (p - (m : Int)))).cell? ⟨ga, 1, none⟩ = some (.string NM) := hc2.cell 1; have j2 : (wb.setCell ⟨ga, 3, none⟩ (.int .i64 (p - (m : Int)))).cell? ⟨ga, 2, none⟩ = some (.string VL) := hc2.cell 2; have j3 : (wb.setCell ⟨ga, 3, none⟩ (.int .i64 (p - (m : Int)))).cell? ⟨ga, 3, none⟩ = some (.int .i64 (p - (m : Int))) := hc2.cell 3; clear hca fa fb hcb hc1 hc2)
            | (refine wp_appN rfl _ _ rfl w (.slice av nv cv) (pstep t m i i) rfl (KK.out.2.kept0 ((Fr.refl _ _).alloc _)) (KK.out.1.alloc _).size _ 0 1 1 [⟨K, NM, VL, (p - (m : Int))⟩] rfl (by omega) rfl (node_lit' (by rw [setCell_size]) ⟨K, NM, VL, (p - (m : Int))⟩) (by rw [pstep_len]; omega) (KK.out.1.alloc _) ?_; intro v' w' hO' f'; obtain ⟨ad', n', cap', rfl, _⟩ := hO'.shape')
            | go_in)
          have e5 := HQ.out
          exact ⟨⟨i + 1, ad', cap', n', by congr 1; omega, rfl, by omega, by show Nodes _ _ _ (pstep t m (i + 1) (i + 1)); rw [hps.out]; exact hO', f'⟩, by simp [RowKit.intOf]; omega⟩
      · obtain rfl : q = E := by have := HQ.out; omega
        have hlt' : ¬ (q : Int) < (q : Int) := by omega
        have hpe := Hid.mk (show partL t m = pstep t m i i from by have h1 := HPA.out; rw [show q - m = i by have := HQ.out; omega] at h1; exact h1.symm)
        go_wp2_with (first
          | (go_at_call 32; refine CE.out.mono ?_; rintro e w6 ⟨rfl, hw6⟩; have hw7 := hw6.symm; clear hw6; subst hw7)
          | go_in)
        go_ret
        exact ⟨⟨_, rfl, by rw [hpe.out]; exact hO.out⟩, hF.out⟩
end Go.Proofs.YtdfgmdddnehocaaGreatDoor

