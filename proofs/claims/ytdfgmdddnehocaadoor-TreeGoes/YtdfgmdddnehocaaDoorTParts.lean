/-
  TreeParts: the walk.
-/
import Derived.Test.YtdfgmdddnehocaaDoorTParM
namespace Go.Proofs.YtdfgmdddnehocaaDoor
open Go.RowKit Go.Maps Go.Lib

theorem fr_grown {w w' : World} {row : Option Nat} (k : w.grownBy w' row) : Fr row.toList w w' := (Fr.refl _ _).grown k (fun j e _ => by simp [e])
section
variable {ops : Array Oper} {rest : List Oper} {o : Oper} {a : Act} {w : World} {Q : Exit → Act → World → Prop}
theorem op_appIs {K : Act → World → Prop} (s y : Operand) (ho : o.op = .call { callee := .builtin .append, args := #[s, y], argTypes := #[31, 31] }) (w0 : World) (v : Value) (l : List Nat) (hs : a.eval s = v) (hown : Ints w0 w v l) (f0 : Fr [] w0 w) (u : World) (sv : Value) (m : List Nat) (hy : a.eval y = sv) (hm : Ints u w sv m) (hb : l.length + m.length ≤ 1000000)
    (h : ∀ v' w', Ints w0 w' v' (l ++ m) → Fr [] w0 w' → Fr v.ownBlock.toList w w' → K (a.put o.dst v') w') : Oper.wp Tryd.prog o a w K Q := by
  obtain ⟨i, hi, hz, hsz, hby⟩ := info3'
  rcases hm.2 with ⟨rfl, hn⟩ | ⟨g, cap, cur, rfl, _, hg, hnc, _, hcs, ht⟩
  · obtain rfl : m = [] := List.eq_nil_of_length_eq_zero hn
    have hrun := run_append_owned_none (P := Tryd.prog) (w := w) w0.heap.size 31 o.type 3 i 1 Tryd.underlying31 hi v l.length (l.map encI) hown
    unfold Oper.wp
    simp [execOp, ho, resolve, invoke, builtin, hs, hy, hrun, Result.andThen]
    exact h v w (by rw [List.append_nil]; exact hown) f0 (Fr.refl _ _)
  · obtain ⟨v', w', hrun, h2, h3, _, _⟩ := run_append_own_at (P := Tryd.prog) w w0.heap.size 31 o.type 3 i (.int .i64 0) 1 8 Tryd.underlying31 hi hz hsz hby rfl (by omega) v l.length (l.map encI) hown ⟨g, 0, none⟩ m.length cap (m.map encI) (by simp) (by
      intro j x hj
      rw [Addr.add_mid, Nat.zero_add, cell_of_row w g j _ _ _ hg]
      have hjl : j < m.length := by have := (List.getElem?_eq_some_iff.1 hj).1; simpa using this
      rw [← ht, List.getElem?_take, if_pos (by omega)] at hj
      simpa using hj) (by intro x hx; obtain ⟨j, _, rfl⟩ := List.mem_map.1 hx; rfl) (by unfold maxLen; omega) (by omega) f0.size
    unfold Oper.wp
    simp [execOp, ho, resolve, invoke, builtin, hs, hy, hrun, Result.andThen]
    refine h v' w' ?_ (f0.grown h3 (fun j e hj => ?_)) (fr_grown h3)
    · show w'.ownsRow w0.heap.size 3 1 _ (l ++ m).length ((l ++ m).map encI)
      rw [List.length_append, List.map_append]
      exact h2
    · have := (hown.lt j e).1
      omega
theorem wp_appIs (hgd : o.guard = none) (s y : Operand) (ho : o.op = .call { callee := .builtin .append, args := #[s, y], argTypes := #[31, 31] }) (w0 : World) (v : Value) (l : List Nat) (hs : a.eval s = v) (hown : Ints w0 w v l) (f0 : Fr [] w0 w) (u : World) (sv : Value) (m : List Nat) (hy : a.eval y = sv) (hm : Ints u w sv m) (hb : l.length + m.length ≤ 1000000)
    (h : ∀ v' w', Ints w0 w' v' (l ++ m) → Fr [] w0 w' → Fr v.ownBlock.toList w w' → wpList Tryd.prog ops Q rest (a.put o.dst v') w') : wpList Tryd.prog ops Q (o :: rest) a w :=
  wpList_plain hgd fun _ hK => op_appIs s y ho w0 v l hs hown f0 u sv m hy hm hb (fun v' w' h1 h2 h3 => hK _ _ (h v' w' h1 h2 h3))
end
/-- The blocks of two rows are two. -/
def Two (v u : Value) : Prop := ∀ g, v.ownBlock = some g → u.ownBlock ≠ some g
section
variable {ops : Array Oper} {rest : List Oper} {o : Oper} {a : Act} {w : World} {Q : Exit → Act → World → Prop}
theorem wp_appIL (hgd : o.guard = none) (s y : Operand) (ho : o.op = .call { callee := .builtin .append, args := #[s, y], argTypes := #[31, 31] }) (w0 : World) (v : Value) (l : List Nat) (hs : a.eval s = v) (hown : Ints w0 w v l) (f0 : Fr [] w0 w)
    (b c x : Nat) (hy : a.eval y = .slice (some ⟨b, 0, none⟩) 1 c) (hx : w.cell? ⟨b, 0, none⟩ = some (encI x)) (hm : l.length + 1 ≤ 16777216)
    (h : ∀ g cap w', Ints w0 w' (.slice (some ⟨g, 0, none⟩) (l.length + 1) cap) (l ++ [x]) → Fr v.ownBlock.toList w w' → Fr [] w0 w' → (v.ownBlock = some g ∨ g = w.heap.size) → wpList Tryd.prog ops Q rest (a.put o.dst (.slice (some ⟨g, 0, none⟩) (l.length + 1) cap)) w') : wpList Tryd.prog ops Q (o :: rest) a w :=
  wpList_plain hgd fun K hK => by
    obtain ⟨i, hi, hz, hsz, hb⟩ := info3'
    obtain ⟨g, cap, w', hrun, h2, h3, h5, h6⟩ := run_append_lies (P := Tryd.prog) w 31 o.type w0.heap.size 3 i (.int .i64 0) 1 8 Tryd.underlying31 hi hz hsz hb rfl (by omega) v l.length (l.map encI) hown ⟨b, 0, none⟩ 1 c [encI x] (by simp) (by intro j u hj; cases j with | zero => (simp at hj; subst hj; rw [Addr.add_mid]; simpa using hx) | succ j => simp at hj) (by intro u hu; simp at hu; subst hu; rfl) (by omega) (by unfold maxLen; omega) (by omega) f0.size _ rfl
    unfold Oper.wp execOp
    simp [ho, resolve, invoke, builtin, hs, hy, hrun, Result.andThen]
    refine hK _ _ (h _ _ _ ?_ (fr_grown h3) (f0.grown h3 (fun j e hj => ?_)) h5)
    · show w'.ownsRow w0.heap.size 3 1 _ (l ++ [x]).length ((l ++ [x]).map encI)
      rw [List.length_append, List.map_append]
      exact h2
    · have := (hown.lt j e).1
      omega
end
theorem judged_ok {t : List Nd} (h : judged t (oneB t) = 0) : okT t = true ∧ oneB t = true := by
  have h1 : oneB t = true := by
    unfold judged at h
    split at h
    · cases h
    · split at h
      · cases h
      · rename_i hg
        cases hb : oneB t with
        | true => rfl
        | false => rw [hb, Bool.and_false] at hg; exact absurd rfl hg
  refine ⟨?_, h1⟩
  unfold okT
  have hk : knd t 0 = 1 := by
    unfold oneB at h1
    rw [Bool.and_eq_true, decide_eq_true_eq] at h1
    exact h1.1
  rw [if_pos hk, h]
  rfl
theorem one_top {t : List Nd} (G : Good t) (h1 : oneB t = true) {k : Nat} (hk : k < t.length) (h0 : 0 < k) : 0 ≤ par t k := by
  unfold oneB at h1
  simp only [Bool.and_eq_true, decide_eq_true_eq] at h1
  have hT : t.countP (fun n => decide (n.parent < 0)) = 1 := h1.2.1
  rcases (by omega : par t k < 0 ∨ 0 ≤ par t k) with c | c
  · exfalso
    have o0 := (G 0 (by omega)).1.2.1
    have e0 : (fun n : Nd => decide (n.parent < 0)) (nth t 0) = true := decide_eq_true (by have : par t 0 < ((0 : Nat) : Int) := o0; unfold par at this; simpa using this)
    have ek : (fun n : Nd => decide (n.parent < 0)) (nth t k) = true := decide_eq_true c
    have hs : t = t.take k ++ t[k] :: t.drop (k + 1) := by rw [List.getElem_cons_drop, List.take_append_drop]
    rw [hs, List.countP_append, List.countP_cons] at hT
    rw [nth_lt hk] at ek
    have h2 : 0 < (t.take k).countP (fun n => decide (n.parent < 0)) := by
      refine List.countP_pos_iff.2 ⟨t[0], ?_, ?_⟩
      · refine List.mem_iff_getElem.2 ⟨0, by rw [List.length_take]; omega, ?_⟩
        rw [List.getElem_take]
      · rw [nth_lt (by omega)] at e0
        exact e0
    rw [if_pos ek] at hT
    omega
  · exact c

theorem lsts_len {t : List Nd} {k : Nat} (hk : k < t.length) (h : t.length ≤ 300) : ∀ a, a ≤ 5 → (lsts t k a).length ≤ 5 * 300 := by
  have key : ∀ a, (lsts t k a).length ≤ a * 300 := by
    intro a
    induction a with
    | zero => simp [lsts]
    | succ a ih =>
      have := lst_len hk a
      rw [lsts, List.length_append]
      omega
  intro a ha
  exact Nat.le_trans (key a) (Nat.mul_le_mul_right 300 ha)
set_option maxHeartbeats 4000000 in
set_option maxRecDepth 100000 in
theorem parts_long (w : World) (L : LaidW w) (ad : Option Addr) (n c : Nat) (x : Int) (h : 300 < n) :
    Calls Tryd.prog 7 #[.slice ad n c, .int .i64 x] w fun e w' => e = .returned (.bool true) ∧ Fr [] w w' := by
  have h' : (300 : Int) < (n : Int) := by omega
  go_enter Tryd.func7, Tryd.ntmps7
  go_wp2_with (go_at_call 8; refine (awake_any _ L).mono ?_; rintro e w1 ⟨rfl, f1⟩)
  go_ret
  exact ⟨rfl, f1⟩
set_option maxHeartbeats 4000000 in
set_option maxRecDepth 100000 in
theorem parts_bad (w : World) (L : LaidW w) (ad : Option Addr) (n c : Nat) (t : List Nd) (hn : t.length = n) (hN : NodesAt w ad t) (hS : Sane t) (x : Int) (h : n ≤ 300) (hJ : judged t (oneB t) ≠ 0) :
    Calls Tryd.prog 7 #[.slice ad n c, .int .i64 x] w fun e w' => e = .returned (.bool true) ∧ Fr [] w w' := by
  have h' : ¬ (300 : Int) < (n : Int) := by omega
  have HN := Hid.mk hN
  have HS := Hid.mk hS
  have HL := Hid.mk L
  have Hn := Hid.mk hn
  obtain ⟨J, hJe⟩ : ∃ J, judged t (oneB t) = J := ⟨_, rfl⟩
  have HJ := Hid.mk hJe
  have hJb : ((J : Int) != 0) = true := by rw [bne_iff_ne]; omega
  clear hN hS L hn hJ hJe
  go_enter Tryd.func7, Tryd.ntmps7
  go_wp2_with (first
    | (go_at_call 8; refine (awake_any _ HL.out).mono ?_; rintro e w1 ⟨rfl, f1⟩)
    | (go_at_call 10; refine (check_any _ (HL.out.kept f1) ad c n t Hn.out (HN.out.kept f1) HS.out).mono ?_; rw [HJ.out]; rintro e w2 ⟨rfl, f2⟩))
  go_ret
  exact ⟨rfl, f1.trans f2⟩

set_option maxHeartbeats 20000000 in
set_option maxRecDepth 100000 in
theorem parts_main (w : World) (L : LaidW w) (b off c : Nat) (t : List Nd) (hI : NodesIn w b off t) (hS : Sane t) (x : Int) (hx : (Lit.int .i64 x).wf = true) (h : t.length ≤ 300) (h0 : 0 < t.length) (hJ : judged t (oneB t) = 0) :
    Calls Tryd.prog 7 #[.slice (some ⟨b, off, none⟩) t.length c, .int .i64 x] w fun e w' => e = .returned (.bool true) ∧ Fr [] w w' := by
  obtain ⟨hok, hone⟩ := judged_ok hJ
  obtain ⟨k, hk, hkl⟩ : ∃ k : Nat, x % (t.length : Int) = (k : Int) ∧ k < t.length := by
    have h1 := Int.emod_nonneg x (show (t.length : Int) ≠ 0 by omega)
    have h2 := Int.emod_lt_of_pos x (show (0 : Int) < (t.length : Int) by omega)
    exact ⟨(x % (t.length : Int)).toNat, by omega, by omega⟩
  have hh : hasB t k = true := by
    unfold hasB
    rw [hok, decide_eq_true (by omega)]
    rfl
  have HA := Hid.mk (fun w' (f : Fr [] w w') => At.mk' (c := c) (L.kept f) (hI.kept f (by simp)) hS hh)
  have G := ok_good hok
  have HG := Hid.mk G
  have H1 := Hid.mk hone
  have HI := Hid.mk hI
  have HS := Hid.mk hS
  have HL := Hid.mk L
  have HK := Hid.mk hk
  have HJ := Hid.mk hJ
  have HX := Hid.mk hx
  have h' : ¬ (300 : Int) < (t.length : Int) := by omega
  have h3 : (t.length : Int) ≤ 300 := by omega
  have hkl' : (k : Int) < (t.length : Int) := by omega
  have hk0 : (0 : Int) ≤ (k : Int) := by omega
  clear hok hone hk hh G hI hS L hJ hx
  by_cases hk3 : knd t k = 3
  · have HK3 := Hid.mk hk3
    clear hk3
    go_enter Tryd.func7, Tryd.ntmps7
    go_wp2_with (first
      | (go_at_call 8; refine (awake_any _ HL.out).mono ?_; rintro e w1 ⟨rfl, f1⟩)
      | (go_at_call 10; refine (check_any _ (HL.out.kept f1) (some ⟨b, off, none⟩) c t.length t rfl (HI.out.kept f1 (by simp)).at HS.out).mono ?_; rw [HJ.out]; rintro e w2 ⟨rfl, f2⟩; obtain ⟨c0, c1, c2, c3⟩ := (HI.out.kept (f1.trans f2) (by simp)) k hkl; rw [HK3.out] at c0; clear c1 c2 c3)
      | (go_at_call 21; refine (pick_any _ x _ HX.out (by omega) (by omega)).mono ?_; rw [HK.out]; rintro e wz ⟨rfl, hwz⟩; have hwz2 := hwz.symm; subst hwz2; clear hwz))
    go_ret
    exact ⟨rfl, f1.trans f2⟩
  · have hk3b : ((((knd t k : Nat)) : Int) == 3) = false := by rw [beq_eq_false_iff_ne]; omega
    have HK3 := Hid.mk hk3
    obtain ⟨K, hKe⟩ : ∃ K, knd t k = K := ⟨_, rfl⟩
    rw [hKe] at hk3b
    have HKe := Hid.mk hKe
    clear hk3 hKe
    go_enter Tryd.func7, Tryd.ntmps7
    go_wp2_with (first
      | (go_at_call 8; refine (awake_any _ HL.out).mono ?_; rintro e w1 ⟨rfl, f1⟩)
      | (go_at_call 10; refine (check_any _ (HL.out.kept f1) (some ⟨b, off, none⟩) c t.length t rfl (HI.out.kept f1 (by simp)).at HS.out).mono ?_; rw [HJ.out]; rintro e w2 ⟨rfl, f2⟩; obtain ⟨c0, c1, c2, c3⟩ := (HI.out.kept (f1.trans f2) (by simp)) k hkl; rw [HKe.out] at c0; clear c1 c2 c3)
      | (go_at_call 21; refine (pick_any _ x _ HX.out (by omega) (by omega)).mono ?_; rw [HK.out]; rintro e wz ⟨rfl, hwz⟩; have hwz2 := hwz.symm; subst hwz2; clear hwz)
      | (refine wp_makeI rfl _ _ rfl t.length rfl rfl (by omega) ?_; intro w3 gn hgn hcn f3)
      | go_in)
    obtain ⟨w5, hw5⟩ : ∃ w5, w3.alloc (.cells #[.int .u8 10, .int .u8 4, .int .u8 2, .int .u8 7, .int .u8 8] 29) = w5 := ⟨_, rfl⟩
    rw [hw5]
    have f35 : Fr [] w3 w5 := by rw [← hw5]; exact (Fr.refl _ _).alloc _
    have hax : ∀ a, a < 5 → w5.cell? ⟨w3.heap.size, a, none⟩ = some (.int .u8 (axs a : Nat)) := by
      intro a ha
      rw [← hw5, cell_of_row _ _ _ _ _ _ (heap_alloc_new w3 _)]
      rcases (by omega : a = 0 ∨ a = 1 ∨ a = 2 ∨ a = 3 ∨ a = 4) with rfl | rfl | rfl | rfl | rfl <;> rfl
    have hgx : w3.heap.size < w5.heap.size := by rw [← hw5]; simp
    obtain ⟨gx, hgxe⟩ : ∃ gx, w3.heap.size = gx := ⟨_, rfl⟩
    have hgnx : gn < gx := by rw [← hgxe]; exact hcn.lt
    rw [hgxe] at hax ⊢
    have F5 := Hid.mk (((f1.trans f2).trans f3).trans f35)
    have C5 := Hid.mk (hcn.kept f35)
    have HAX := Hid.mk hax
    have hgnw : w.heap.size ≤ gn := Nat.le_trans (f1.trans f2).size hgn
    clear f35 hax hw5 hgx hcn f1 f2 f3 c0 hgn hgxe
    go_loopw [8] (fun s8 wr => ∃ a : Nat, a ≤ 5 ∧ s8 = .int .i64 (a : Int) ∧ Hid (Cnt wr gn (lsts t k a) t.length) ∧ Hid (Fr [] w wr) ∧ Hid (∀ a, a < 5 → wr.cell? ⟨gx, a, none⟩ = some (.int .u8 (axs a : Nat)))) (fun s8 _ => 5 - (RowKit.intOf s8).toNat)
    case atStart => exact ⟨0, by omega, rfl, C5, F5, HAX⟩
    case round =>
      obtain ⟨a, ha, rfl, hC, hF, hAx⟩ := hrel
      clear C5 F5 HAX
      have ha0 : (0 : Int) ≤ (a : Int) := by omega
      by_cases hlt : a < 5
      · have hlt' : (a : Int) < 5 := by omega
        have hq := hAx.out a hlt
        have cG := Hid.mk (Go_axs _ b off c t k (HA.out _ hF.out) a hlt)
        have hll := lst_len hkl a
        have HLT := Hid.mk (lst_lt hkl a)
        have HLS : Hid (lsts t k (a + 1) = lsts t k a ++ lst t k a) := rfl
        generalize axs a = X at hq cG
        obtain ⟨l, hl⟩ : ∃ l, lst t k a = l := ⟨_, rfl⟩
        rw [hl] at cG hll HLT HLS
        clear hl
        have hax2 := hAx
        clear hAx
        obtain ⟨wo, hwo⟩ : ∃ wo, wo = wr := ⟨_, rfl⟩
        subst hwo
        go_wp2_with (go_at_call 16; refine cG.out.mono ?_; rintro e w6 ⟨⟨v, rfl, hv⟩, f6⟩)
        obtain ⟨adl, capl, rfl, _⟩ := hv.shape
        have C6 := Hid.mk (hC.out.kept f6)
        have F6 := Hid.mk (hF.out.trans f6)
        have A6 : Hid (∀ a, a < 5 → w6.cell? ⟨gx, a, none⟩ = some (.int .u8 (axs a : Nat))) := fun a ha => cell_fr f6 (by simp) (hax2.out a ha)
        have V6 := Hid.mk hv
        have hgo : gn < wo.heap.size := hC.out.lt
        obtain ⟨ll, hle⟩ : ∃ ll, l.length = ll := ⟨_, rfl⟩
        have HLL := Hid.mk hle
        rw [hle] at V6 hll ⊢
        clear hle hv cG hC hF hax2 f6 hq
        go_loopw [10] (fun s10 wi => ∃ i : Nat, i ≤ ll ∧ s10 = .int .i64 (i : Int) ∧ Hid (Cnt wi gn (lsts t k a ++ l.take i) t.length) ∧ Hid (Fr [] w wi) ∧ Hid (∀ a, a < 5 → wi.cell? ⟨gx, a, none⟩ = some (.int .u8 (axs a : Nat))) ∧ Hid (Ints wo wi (.slice adl ll capl) l)) (fun s10 _ => ll - (RowKit.intOf s10).toNat)
        case atStart => exact ⟨0, Nat.zero_le _, rfl, (by show Cnt _ _ (lsts t k a ++ l.take 0) _; rw [List.take_zero, List.append_nil]; exact C6.out), F6, A6, V6⟩
        case round =>
          obtain ⟨i, hi, rfl, hC, hF, hAx, hV⟩ := hrel
          clear C6 F6 A6 V6
          have hi0 : (0 : Int) ≤ (i : Int) := by omega
          by_cases hil : i < ll
          · have hil' : (i : Int) < (ll : Int) := by omega
            have hV' : Ints wo wr (.slice adl l.length capl) l := by rw [HLL.out]; exact hV.out
            obtain ⟨gl, cl, el, hgl, q1⟩ := hV'.at (i := i) (by rw [HLL.out]; exact hil)
            cases el
            clear hV'
            have hget : l[i]? = some (l.getD i 0) := by
              rw [List.getD_eq_getElem?_getD, List.getElem?_eq_getElem (by rw [HLL.out]; exact hil)]; rfl
            obtain ⟨y, hy⟩ : ∃ y, l.getD i 0 = y := ⟨_, rfl⟩
            rw [hy] at q1 hget
            have hyl := HLT.out y (List.mem_of_getElem? hget)
            have hyl' : (y : Int) < (t.length : Int) := by omega
            have hy0 : (0 : Int) ≤ (y : Int) := by omega
            have hstep := Hid.mk (hC.out.set hyl)
            have HTK : Hid (lsts t k a ++ l.take (i + 1) = (lsts t k a ++ l.take i) ++ [y]) := by
              obtain ⟨h1, h2⟩ := List.getElem?_eq_some_iff.1 hget
              show _ = _
              rw [List.take_succ_eq_append_getElem h1, h2, List.append_assoc]
            have qc := hC.out.cell hyl
            have qf := hC.out.frozen y
            have hcb : (lsts t k a ++ l.take i).count y ≤ 100000 := by
              refine Nat.le_trans List.count_le_length ?_
              rw [List.length_append, List.length_take]
              have h1 : (lsts t k a).length ≤ 5 * 300 := lsts_len hkl h a ha
              omega
            generalize hN : (lsts t k a ++ l.take i).count y = N at qc hcb hstep
            clear hy hget hN
            go_wp2
            have fS : Fr [] w (wr.setCell ⟨gn, y, none⟩ (.int .i64 ((N : Int) + 1))) := hF.out.setCell ⟨gn, y, none⟩ _ (fun hh => absurd hh (by show ¬ gn < w.heap.size; omega))
            have gS : ∀ j, j ≠ gn → (wr.setCell ⟨gn, y, none⟩ (.int .i64 ((N : Int) + 1))).heap[j]? = wr.heap[j]? := fun j hj => Below.heap_setCell _ _ _ j (fun e => hj e)
            refine ⟨⟨i + 1, by omega, by go_num, ?_, fS, fun a ha => (World.cell?_of_block (gS gx (by omega))).trans (hAx.out a ha), ?_⟩, by simp [RowKit.intOf]; omega⟩
            · show Cnt _ _ (lsts t k a ++ l.take (i + 1)) _
              rw [HTK.out]
              exact hstep.out
            · obtain ⟨h1, h2⟩ := hV.out
              refine ⟨h1, ?_⟩
              rcases h2 with ⟨e, _⟩ | ⟨g, cap, cur, e, hb, hg, r⟩
              · cases e
              · cases e
                exact Or.inr ⟨gl, capl, cur, rfl, hb, (gS gl (by omega)).trans hg, r⟩
          · obtain rfl : i = ll := by omega
            go_wp2
            refine ⟨⟨a + 1, by omega, by go_num, ?_, hF, hAx⟩, by simp [RowKit.intOf]; omega⟩
            show Cnt _ _ (lsts t k (a + 1)) _
            rw [HLS.out]
            have := hC.out
            rw [← HLL.out, List.take_length] at this
            exact this
      · obtain rfl : a = 5 := by omega
        rw [show (((5 : Nat)) : Int) = 5 from rfl]
        have hfive : ∀ i, i < t.length → (lsts t k 5).count i = if knd t i = 3 then 0 else 1 := fun i hi => by
          rw [lsts_five]
          exact five HG.out hkl HK3.out hi
        have HFV := Hid.mk hfive
        have HC := Hid.mk hC.out
        clear hfive hC hAx
        go_wp2
        go_loopw [11] (fun s11 wr => ∃ i : Nat, i ≤ t.length ∧ s11 = .int .i64 (i : Int) ∧ Hid (Cnt wr gn (lsts t k 5) t.length) ∧ Hid (Fr [] w wr)) (fun s11 _ => t.length - (RowKit.intOf s11).toNat)
        case atStart => exact ⟨0, Nat.zero_le _, rfl, HC, hF⟩
        case round =>
          obtain ⟨i, hi, rfl, hC, hFi⟩ := hrel
          clear HC hF
          have hi0 : (0 : Int) ≤ (i : Int) := by omega
          by_cases hil : i < t.length
          · have hil' : (i : Int) < (t.length : Int) := by omega
            obtain ⟨c0, c1, c2, c3⟩ := (HI.out.kept hFi.out (by simp)) i hil
            have qc := hC.out.cell hil
            rw [HFV.out i hil] at qc
            clear c1 c2 c3
            by_cases hi3 : knd t i = 3
            · rw [if_pos hi3] at qc
              rw [hi3] at c0
              clear hi3
              go_wp2
              exact ⟨⟨i + 1, by omega, by go_num, hC, hFi⟩, by simp [RowKit.intOf]; omega⟩
            · rw [if_neg hi3] at qc
              have h3b : ((((knd t i : Nat)) : Int) != 3) = true := by rw [bne_iff_ne]; omega
              have h3c : ((((knd t i : Nat)) : Int) == 3) = false := by rw [beq_eq_false_iff_ne]; omega
              generalize knd t i = M at c0 h3b h3c
              clear hi3
              go_wp2
              exact ⟨⟨i + 1, by omega, by go_num, hC, hFi⟩, by simp [RowKit.intOf]; omega⟩
          · obtain rfl : i = t.length := by omega
            by_cases hk00 : k = 0
            · have hk00' : ((k : Int) == 0) = true := by rw [beq_iff_eq]; omega
              clear hk00
              go_wp2
              go_ret
              exact ⟨rfl, hFi.out⟩
            · have hk00' : ((k : Int) == 0) = false := by rw [beq_eq_false_iff_ne]; omega
              have hp0 := one_top HG.out H1.out hkl (by omega)
              obtain ⟨p, hp⟩ : ∃ p : Nat, par t k = (p : Int) := ⟨(par t k).toNat, by omega⟩
              have hpk : p < k := by have := (HG.out k hkl).1.2.1; omega
              have HP := Hid.mk hp
              have hsb : sibAhead t k = (kidsL t p).filter (fun i => decide (i < k)) := by
                unfold sibAhead
                rw [if_neg HK3.out, hp]
              have hsa : sibBehind t k = (kidsL t p).filter (fun i => decide (k < i)) := by
                unfold sibBehind
                rw [if_neg HK3.out, hp]
              have hrow : sibAhead t k ++ k :: sibBehind t k = kidsL t p := by
                rw [hsb, hsa]
                have := sib_row HG.out hkl HK3.out
                rw [hp] at this
                exact this
              have HR := Hid.mk hrow
              have hlb := sib_len t k (by omega) hkl (HG.out k hkl).1
              have cB := Hid.mk (fun w' (f : Fr [] w w') => Go_psib w' b off c t k (HA.out w' f))
              have cA := Hid.mk (fun w' (f : Fr [] w w') => Go_fsib w' b off c t k (HA.out w' f))
              clear hp0 hp hsb hsa hrow hk00
              go_wp2_with (go_at_call 16; refine (cB.out _ hFi.out).mono ?_; rintro e w7 ⟨⟨v7, rfl, hv7⟩, f7⟩; obtain ⟨ad7, cap7, rfl, _⟩ := hv7.shape; rw [List.length_reverse])
              have F7 := Hid.mk (hFi.out.trans f7)
              have V7 := Hid.mk (hv7.from hFi.out)
              obtain ⟨lb, hle⟩ : ∃ lb, (sibAhead t k).length = lb := ⟨_, rfl⟩
              have HLB := Hid.mk hle
              rw [List.length_reverse, hle] at V7
              rw [hle] at hlb ⊢
              clear hle hv7 f7 hFi hC cB
              go_loopw [12, 14] (fun s12 s14 wi => ∃ i : Nat, i ≤ lb ∧ s14 = .int .i64 ((i : Int) - 1) ∧ Hid (Ints w wi s12 ((sibAhead t k).reverse.drop i).reverse) ∧ Hid (Ints w wi (.slice ad7 lb cap7) (sibAhead t k).reverse) ∧ Hid (Two s12 (.slice ad7 lb cap7)) ∧ Hid (Fr [] w wi)) (fun _ s14 _ => (RowKit.intOf s14 + 1).toNat)
              case atStart => exact ⟨lb, Nat.le_refl _, rfl, (by show Ints _ _ _ ((sibAhead t k).reverse.drop lb).reverse; rw [List.drop_eq_nil_of_le (by rw [List.length_reverse, HLB.out]; exact Nat.le_refl _)]; exact Ints.nil _ _), V7, (fun g h => by cases h), F7⟩
              case round =>
                obtain ⟨i, hi, rfl, hR, hV, hTw, hF⟩ := hrel
                clear F7 V7
                obtain ⟨ad8, cap8, rfl, _⟩ := hR.out.shape
                cases i with
                | zero =>
                  have hR0 : Ints w wr (.slice ad8 ((sibAhead t k).reverse.drop 0).reverse.length cap8) (sibAhead t k) := by
                    have := hR.out
                    rw [List.drop_zero, List.reverse_reverse] at this ⊢
                    exact this
                  rw [show ((sibAhead t k).reverse.drop 0).reverse.length = lb by rw [List.drop_zero, List.reverse_reverse]; exact HLB.out] at hR0 ⊢
                  have HR0 := Hid.mk hR0
                  have hsl : lb + 1 + (sibBehind t k).length ≤ 100000 := by
                    have h1 : (kidsL t p).length ≤ t.length := Nat.le_trans (kidsTo_len _ _ _) (endOf_is (t := t) (k := (p : Int)) (by omega) (by omega)).le
                    rw [← HR.out, List.length_append, List.length_cons, HLB.out] at h1
                    omega
                  have cK := Hid.mk (fun w' (f : Fr [] w w') => Kids_at w' b off c t p (At.mk' (c := c) (HL.out.kept f) (HI.out.kept f (by simp)) HS.out (by
                    have hok := (judged_ok HJ.out).1
                    unfold hasB
                    rw [hok, decide_eq_true (by omega)]
                    rfl)))
                  have hrl : (sibAhead t k ++ [k] ++ sibBehind t k).length ≤ 100000 := by
                    rw [List.length_append, List.length_append, HLB.out]; simp; omega
                  have hreq : decide (sibAhead t k ++ [k] ++ sibBehind t k = kidsL t p) = true := decide_eq_true (by rw [← HR.out]; simp)
                  have HRQ := Hid.mk hreq
                  clear hR hR0 hV hTw hreq
                  go_wp2_with (first
                    | (refine wp_appIL rfl _ _ rfl w (.slice ad8 lb cap8) (sibAhead t k) rfl (HR0.out.kept0 ((Fr.refl _ _).alloc _)) (hF.out.alloc _) wr.heap.size 1 k rfl (cell_new1 _ _ _) (by rw [HLB.out]; omega) ?_; rw [HLB.out]; intro g9 cap9 w9 h9 f9 fr9 at9; have H9 := Hid.mk h9; clear h9)
                    | fail)
                  refine (cA.out _ fr9).mono ?_
                  rintro e w10 ⟨⟨v10, rfl, hv10⟩, f10⟩
                  obtain ⟨ad10, cap10, rfl, _⟩ := hv10.shape
                  obtain ⟨lz, hlz⟩ : ∃ lz, (sibBehind t k).length = lz := ⟨_, rfl⟩
                  have HLZ := Hid.mk hlz
                  rw [hlz] at hv10 hsl ⊢
                  have H10 := Hid.mk hv10
                  clear hv10 hlz
                  go_wp2_with (first
                    | (refine wp_appIs rfl _ _ rfl w (.slice (some ⟨g9, 0, none⟩) (lb + 1) cap9) (sibAhead t k ++ [k]) rfl (H9.out.kept0 f10) (fr9.trans f10) w9 (.slice ad10 lz cap10) (sibBehind t k) rfl H10.out (by rw [List.length_append, HLB.out, HLZ.out]; simp; omega) ?_; intro v11 w11 h11 fr11 f11; obtain ⟨ad11, cap11, rfl, _⟩ := h11.shape; obtain ⟨ly, hly⟩ : ∃ ly, (sibAhead t k ++ [k] ++ sibBehind t k).length = ly := ⟨_, rfl⟩; rw [hly] at h11 ⊢; clear hly; have H11 := Hid.mk h11; clear h11; obtain ⟨c0, c1, c2, c3⟩ := (HI.out.kept fr11 (by simp)) k hkl; rw [HP.out] at c3; clear c0 c1 c2)
                    | fail)
                  refine (cK.out _ fr11).mono ?_
                  rintro e w12 ⟨⟨v12, rfl, hv12⟩, f12⟩
                  have H12 := Hid.mk hv12
                  clear hv12
                  go_wp2_with fail
                  refine (sameInts_any _ w w11 _ v12 _ (kidsL t p) (H11.out.kept0 f12) H12.out hrl).mono ?_
                  rw [HRQ.out]
                  rintro e w13 ⟨rfl, f13⟩
                  go_wp2_with fail
                  go_ret
                  exact ⟨rfl, (fr11.trans f12).trans f13⟩
                | succ i =>
                  have e1 : ((i + 1 : Nat) : Int) - 1 = (i : Int) := by omega
                  rw [e1]
                  have hi0 : (0 : Int) ≤ (i : Int) := by omega
                  have hil' : (i : Int) < (lb : Int) := by omega
                  have hlr : (sibAhead t k).reverse.length = lb := by rw [List.length_reverse, HLB.out]
                  have hV' : Ints w wr (.slice ad7 (sibAhead t k).reverse.length cap7) (sibAhead t k).reverse := by rw [hlr]; exact hV.out
                  obtain ⟨gl, cl, el, hgl, q1⟩ := hV'.at (i := i) (by rw [hlr]; omega)
                  cases el
                  clear hV'
                  have hdr : ((sibAhead t k).reverse.drop i).reverse = ((sibAhead t k).reverse.drop (i + 1)).reverse ++ [(sibAhead t k).reverse.getD i 0] := by
                    rw [List.drop_eq_getElem_cons (by rw [hlr]; omega), List.reverse_cons, List.getD_eq_getElem?_getD, List.getElem?_eq_getElem (by rw [hlr]; omega)]
                    rfl
                  have HD := Hid.mk hdr
                  clear hdr
                  have hrl : ((sibAhead t k).reverse.drop (i + 1)).reverse.length ≤ 16384 := by
                    rw [List.length_reverse, List.length_drop, hlr]; omega
                  generalize (sibAhead t k).reverse.getD i 0 = y at q1 HD
                  obtain ⟨r8, hr8⟩ : ∃ r8, ((sibAhead t k).reverse.drop (i + 1)).reverse = r8 := ⟨_, rfl⟩
                  rw [hr8] at hR HD hrl hTw ⊢
                  obtain ⟨m8, hm8⟩ : ∃ m8, r8.length = m8 := ⟨_, rfl⟩
                  have HM8 := Hid.mk hm8
                  rw [hm8] at hR hrl hTw ⊢
                  clear hr8 hm8 hlr
                  go_wp2_with (first
                    | (refine wp_appIL rfl _ _ rfl w (.slice ad8 m8 cap8) r8 rfl (hR.out.kept0 ((Fr.refl _ _).alloc _)) (hF.out.alloc _) wr.heap.size 1 y rfl (cell_new1 _ _ _) (by rw [HM8.out]; omega) ?_; intro g9 cap9 w9 h9 f9 fr9 at9)
                    | go_in)
                  have hV9 : Ints w w9 (.slice (some ⟨gl, 0, none⟩) lb cap7) (sibAhead t k).reverse := (hV.out.kept0 ((Fr.refl _ _).alloc _)).kept f9 (fun g hg hm => by
                    have hm' : (Value.slice ad8 m8 cap8).ownBlock = some g := by simpa using hm
                    exact hTw.out g hm' hg)
                  refine ⟨⟨i, by omega, rfl, ?_, hV9, ?_, fr9⟩, by simp [RowKit.intOf]⟩
                  · show Ints _ _ _ ((sibAhead t k).reverse.drop i).reverse
                    rw [HD.out]
                    exact h9
                  · intro g hg e
                    have hgg : g9 = g := by simpa [Value.ownBlock] using hg
                    subst hgg
                    rcases at9 with q | q
                    · exact hTw.out g9 q e
                    · have h1 : gl = g9 := by simpa [Value.ownBlock] using e
                      have h2 := (hV.out.lt gl rfl).2
                      simp at q
                      omega
end Go.Proofs.YtdfgmdddnehocaaDoor
