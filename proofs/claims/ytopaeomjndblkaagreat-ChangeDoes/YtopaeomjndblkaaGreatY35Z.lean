/-
  The book's write: steps are made of spans, then done.
-/
import Derived.Test.YtopaeomjndblkaaGreatY34Z
namespace Go.Proofs.YtopaeomjndblkaaGreat
open Go.RowKit Go.Maps
open Pg (SpE diffS)

theorem infoSt : ∃ i, Tryz.prog.info? 77 = some i ∧ i.zero = some .nilFunc ∧ i.size = 1 ∧ i.bytes = 8 := by
  have h : (Tryz.prog.info? 77).map (fun i => (i.zero, i.size, i.bytes)) = some (some .nilFunc, 1, 8) := by kernel_rfl
  cases hi : Tryz.prog.info? 77 with
  | none => rw [hi] at h; cases h
  | some i =>
    rw [hi] at h
    simp at h
    exact ⟨i, rfl, h.1, h.2.1, h.2.2⟩
section
variable {ops : Array Oper} {rest : List Oper} {o : Oper} {a : Act} {w : World} {Q : Exit → Act → World → Prop}
/-- append of two steps. -/
theorem wp_appSt (hgd : o.guard = none) (s x : Operand) (ho : o.op = .call { callee := .builtin .append, args := #[s, x], argTypes := #[236, 236] }) (w0 : World) (ad : Option Addr) (n c : Nat) (xs : List Value) (b : Nat) (u v : Value) (hs : a.eval s = .slice ad n c) (hx : a.eval x = .slice (some ⟨b, 0, none⟩) 2 2)
    (hown : w.ownsRow w0.heap.size 77 1 (.slice ad n c) n xs) (f0 : Fr [] w0 w) (hb : w.heap[b]? = some (.cells #[u, v] 77)) (hu : u.oneCell' = true) (hv : v.oneCell' = true) (hm : n + 2 ≤ 10000)
    (h : ∀ g c' w', w'.ownsRow w0.heap.size 77 1 (.slice (some ⟨g, 0, none⟩) (n + 2) c') (n + 2) (xs ++ [u, v]) → Fr (Value.ownBlock (.slice ad n c)).toList w w' → Fr [] w0 w' → wpList Tryz.prog ops Q rest (a.put o.dst (.slice (some ⟨g, 0, none⟩) (n + 2) c')) w') : wpList Tryz.prog ops Q (o :: rest) a w :=
  wpList_plain hgd fun K hK => by
    obtain ⟨i, hi, hz, hsz, hbb⟩ := infoSt
    obtain ⟨v', w', hrun, h2, h3, h4, h5⟩ := run_append_own_at (P := Tryz.prog) w w0.heap.size 236 o.type 77 i .nilFunc 1 8 Tryz.underlying236 hi hz hsz hbb rfl (by omega) _ n xs hown ⟨b, 0, none⟩ 2 2 [u, v] (by simp)
      (by
        intro j x hx
        rw [Addr.add_mid, cell_of_row w b _ _ _ _ hb]
        simpa using hx) (by intro x hx; simp at hx; rcases hx with rfl | rfl <;> assumption) (by unfold maxLen; omega) (by omega) f0.size
    have hfr : Fr [] w0 w' := f0.grown h3 (fun j e hj => by
      have := (hown.lt j e).1
      omega)
    rcases h2.2 with ⟨e, hn0⟩ | ⟨g, c', cur, e, r⟩
    · omega
    · subst e
      unfold Oper.wp execOp
      simp [ho, resolve, invoke, builtin, hs, hx, hrun, Result.andThen]
      exact hK _ _ (h _ _ _ h2 ((Fr.refl _ _).grown h3 (fun j e _ => by simp [e])) hfr)
end
/-- The steps of the spans whose boxes are these. -/
def stepV (B : Nat) (i sb : Nat) : Value := .func (.func (if i = 0 then 197 else 199)) #[] #[.pointer (some ⟨B, 0, none⟩), .pointer (some ⟨sb, 0, none⟩)]
def stepsV (B : Nat) (bl : List Nat) : List Value := bl.flatMap fun sb => [stepV B 0 sb, stepV B 1 sb]
theorem stepsV_length (B : Nat) (bl : List Nat) : (stepsV B bl).length = 2 * bl.length := by
  induction bl with
  | nil => rfl
  | cons x r ih => simp [stepsV] at ih ⊢; omega
/-- The boxes of the first spans. -/
def Boxes (w : World) (lo pg : Nat) (S : List SpE) (bl : List Nat) : Prop := ∀ (m sb : Nat), bl[m]? = some sb → lo ≤ sb ∧ ∃ e : SpE, S[m]? = some e ∧ SpBox w sb pg e.off e.bo e.bn e.n
theorem Boxes.kept {w w' : World} {lo pg : Nat} {S : List SpE} {bl : List Nat} {L : List Nat} (h : Boxes w lo pg S bl) (f : Fr L w w') (hL : ∀ k ∈ L, ∀ cur t, w.heap[k]? = some (.cells cur t) → t ≠ 42) : Boxes w' lo pg S bl := fun m sb hm => by
  obtain ⟨h1, e, he, hb⟩ := h m sb hm
  exact ⟨h1, e, he, f.same (fun hk => hL sb hk _ _ hb rfl) hb⟩
def flB (B : Nat) (bl : List Nat) : List (FuncId × List Value) := bl.flatMap fun sb => [(197, [.pointer (some ⟨B, 0, none⟩), .pointer (some ⟨sb, 0, none⟩)]), (199, [.pointer (some ⟨B, 0, none⟩), .pointer (some ⟨sb, 0, none⟩)])]
theorem stepsV_fl (B : Nat) (bl : List Nat) : stepsV B bl = (flB B bl).map fun p => .func (.func p.1) #[] p.2.toArray := by
  induction bl with
  | nil => rfl
  | cons x r ih =>
    show stepV B 0 x :: stepV B 1 x :: stepsV B r = _
    rw [ih]
    rfl
theorem flB_length (B : Nat) (bl : List Nat) : (flB B bl).length = 2 * bl.length := by
  have h := stepsV_length B bl
  rw [stepsV_fl, List.length_map] at h
  exact h
theorem flB_at (B : Nat) : ∀ (bl : List Nat) (i : Nat) (p : FuncId × List Value), (flB B bl)[i]? = some p → ∃ m sb, bl[m]? = some sb ∧ ((i = 2 * m ∧ p = (197, [.pointer (some ⟨B, 0, none⟩), .pointer (some ⟨sb, 0, none⟩)])) ∨ (i = 2 * m + 1 ∧ p = (199, [.pointer (some ⟨B, 0, none⟩), .pointer (some ⟨sb, 0, none⟩)])))
  | [], i, p, h => by simp [flB] at h
  | x :: r, 0, p, h => ⟨0, x, rfl, Or.inl ⟨rfl, by simpa [flB] using h.symm⟩⟩
  | x :: r, 1, p, h => ⟨0, x, rfl, Or.inr ⟨rfl, by simpa [flB] using h.symm⟩⟩
  | x :: r, i + 2, p, h => by
    have e : flB B (x :: r) = (197, [.pointer (some ⟨B, 0, none⟩), .pointer (some ⟨x, 0, none⟩)]) :: (199, [.pointer (some ⟨B, 0, none⟩), .pointer (some ⟨x, 0, none⟩)]) :: flB B r := rfl
    rw [e] at h
    obtain ⟨m, sb, h1, h2⟩ := flB_at B r i p (by simpa using h)
    refine ⟨m + 1, sb, by simpa using h1, ?_⟩
    rcases h2 with ⟨h2, h3⟩ | ⟨h2, h3⟩
    · exact Or.inl ⟨by omega, h3⟩
    · exact Or.inr ⟨by omega, h3⟩
theorem en_1 (w : World) (l : Array Value) : (callFunc 197 l).run Tryz.prog w = .ok (.enter 197 l) w := by go_simp
theorem en_2 (w : World) (l : Array Value) : (callFunc 199 l).run Tryz.prog w = .ok (.enter 199 l) w := by go_simp
theorem WInv.base {w w' wr wr' : World} {b : Bk} {H : List Ch} {V : Pages} {pg : Nat} {la lb : List UInt8} {S : List SpE} {k j : Nat} {b' : Bk} {H' : List Ch} (h : WInv w b H V pg la lb S k j wr b' H') (st : BStep w' wr' b b') : WInv w' b H V pg la lb S k j wr' b' H' := { h with st := st }
set_option maxHeartbeats 2000000 in
set_option maxRecDepth 100000 in
theorem write_any {w : World} {b : Bk} (h : BkAt w b) {H : List Ch} {V : Pages} {pg : Nat} {la lb : List UInt8} {w0 : World} {AD : Option Addr} {N CAP : Nat} {S : List SpE} (hS : Spans w0 w la lb (pg : Int) AD N CAP S) (ha : la.length = 512) (hb : lb.length = 512) (hpg : pg < b.x.pages) (hpg2 : pg < 65536)
    (hnew : ∀ k ∈ b.dp :: b.x.own, k < w0.heap.size) (iv : WInv w b H V pg la lb S 0 0 w b H) (hnum : placeB b.t.num = true) (hT0 : 1 ≤ b.x.y.T) (hT1 : b.x.y.T ≤ 2147483647) (hroom : keptOf H + 35 + sumN S ≤ 408 * (b.x.y.count - 1) - ((b.x.y.E : Int) - (b.x.y.A : Int))) (hE : b.x.y.E + logN S ≤ 400000) (hc0 : 0 ≤ b.t.chg) (hc1 : b.t.chg ≤ 900000) (hk1 : keptOf H ≤ 700000) :
    Calls Tryz.prog 99 #[.pointer (some ⟨b.bp, 0, none⟩), .slice AD N CAP] w fun e w' => e = .returned (.int .i64 0) ∧ ∃ b' H', WInv w b H V pg la lb S N N w' b' H' := by
  have HS := hidI hS
  have hN := hS.few
  have HI := hidI iv
  have HH := hidI h
  have HNEW := hidI hnew
  have HRM := hidI hroom
  have fa : Fr [] w (w.alloc (.cells #[.pointer (some ⟨b.bp, 0, none⟩)] 60)) := (Fr.refl [] w).alloc _
  have hB := heap_alloc_new w (.cells #[.pointer (some ⟨b.bp, 0, none⟩)] 60)
  obtain ⟨wa, hwa⟩ : ∃ wa, w.alloc (.cells #[.pointer (some ⟨b.bp, 0, none⟩)] 60) = wa := ⟨_, rfl⟩
  rw [hwa] at fa hB
  obtain ⟨B, HB⟩ : ∃ B, Hid (w.heap.size = B) := ⟨_, rfl⟩
  rw [HB.out] at hB
  clear h hS iv hnew hroom
  go_enter Tryz.func99, Tryz.ntmps99
  go_wp2_with fail
  rw [HB.out]
  go_loopw [5, 11] (fun s5 s11 wr => ∃ k : Nat, ∃ ad c bl, s5 = .slice ad (2 * k) c ∧ s11 = .int .i64 (k : Int) ∧ k ≤ N ∧ Hid (bl.length = k ∧ wr.ownsRow wa.heap.size 77 1 (.slice ad (2 * k) c) (2 * k) (stepsV B bl) ∧ Boxes wr wa.heap.size pg S bl ∧ Fr [] wa wr)) (fun _ i _ => N - (intOf i).toNat)
  case atStart => exact ⟨0, none, 0, [], rfl, rfl, by omega, hidI ⟨rfl, World.ownsRow_nil _ _ _ _, fun m sb hm => by simp at hm, Fr.refl _ _⟩⟩
  case round =>
    obtain ⟨k, ad, c, bl, rfl, rfl, hk, HK⟩ := hrel
    have hcB : wr.cell? ⟨B, 0, none⟩ = some (.pointer (some ⟨b.bp, 0, none⟩)) := cell_of_row wr B 0 _ _ _ (HK.out.2.2.2.same (by simp) hB)
    by_cases hlt : k < N
    · have q1 : (k : Int) < (N : Int) := by omega
      have q0 : (0 : Int) ≤ (k : Int) := by omega
      obtain ⟨e, he⟩ : ∃ e, S[k]? = some e := ⟨_, List.getElem?_eq_getElem (by have := HS.out.len; omega)⟩
      obtain ⟨g, hAD, hg0, hrow⟩ : ∃ g, AD = some ⟨g, 0, none⟩ ∧ w0.heap.size ≤ g ∧ SpRow w g N (pg : Int) S := HS.out.row.resolve_left (by omega)
      subst hAD
      obtain ⟨k0, k1, k2, k3⟩ := (hrow.kept (fa.trans HK.out.2.2.2) (by simp)).cells he
      rw [if_pos hlt] at k0
      have HE := hidI he
      clear he hrow
      have f1 : Fr [] wr (wr.alloc (.cells #[.int .i64 (pg : Int), .int .i64 (e.off : Int), .slice (some ⟨e.bo, 0, none⟩) e.n e.n, .slice (some ⟨e.bn, 0, none⟩) e.n e.n] 42)) := (Fr.refl [] wr).alloc _
      have hsb := heap_alloc_new wr (.cells #[.int .i64 (pg : Int), .int .i64 (e.off : Int), .slice (some ⟨e.bo, 0, none⟩) e.n e.n, .slice (some ⟨e.bn, 0, none⟩) e.n e.n] 42)
      have hsz1 : (wr.alloc (.cells #[.int .i64 (pg : Int), .int .i64 (e.off : Int), .slice (some ⟨e.bo, 0, none⟩) e.n e.n, .slice (some ⟨e.bn, 0, none⟩) e.n e.n] 42)).heap.size = wr.heap.size + 1 := by simp
      obtain ⟨w1, hw1⟩ : ∃ w1, wr.alloc (.cells #[.int .i64 (pg : Int), .int .i64 (e.off : Int), .slice (some ⟨e.bo, 0, none⟩) e.n e.n, .slice (some ⟨e.bn, 0, none⟩) e.n e.n] 42) = w1 := ⟨_, rfl⟩
      rw [hw1] at f1 hsb hsz1
      have f2 : Fr [] w1 (w1.alloc (.cells #[stepV B 0 wr.heap.size, stepV B 1 wr.heap.size] 77)) := (Fr.refl [] w1).alloc _
      have hst := heap_alloc_new w1 (.cells #[stepV B 0 wr.heap.size, stepV B 1 wr.heap.size] 77)
      have OW : Hid ((w1.alloc (.cells #[stepV B 0 wr.heap.size, stepV B 1 wr.heap.size] 77)).ownsRow wa.heap.size 77 1 (.slice ad (2 * k) c) (2 * k) (stepsV B bl)) := hidI (by
        obtain ⟨h1, h2⟩ := HK.out.2.1
        refine ⟨h1, ?_⟩
        rcases h2 with hn | ⟨g', cap, cur, e1, hb', hg', r⟩
        · exact Or.inl hn
        · exact Or.inr ⟨g', cap, cur, e1, hb', (f1.trans f2).same (by simp) hg', r⟩)
      have FW : Hid (Fr [] wa (w1.alloc (.cells #[stepV B 0 wr.heap.size, stepV B 1 wr.heap.size] 77))) := hidI ((HK.out.2.2.2.trans f1).trans f2)
      have HST := hidI hst
      rw [hsz1] at HST
      go_wp2_with (refine wp_appSt rfl _ _ rfl wa ad (2 * k) c (stepsV B bl) (wr.heap.size + 1) (stepV B 0 wr.heap.size) (stepV B 1 wr.heap.size) rfl rfl OW.out FW.out HST.out rfl rfl (by omega) ?_; intro g5 c5 w5 o5 f5 fr5)
      refine ⟨⟨k + 1, some ⟨g5, 0, none⟩, c5, bl ++ [wr.heap.size], rfl, by go_num, by omega, hidI ⟨by rw [List.length_append, HK.out.1]; rfl, ?_, ?_, fr5⟩⟩, ?_⟩
      · have e5 : stepsV B (bl ++ [wr.heap.size]) = stepsV B bl ++ [stepV B 0 wr.heap.size, stepV B 1 wr.heap.size] := by simp [stepsV]
        rw [e5]
        exact o5
      · have hty : ∀ g' ∈ (Value.ownBlock (.slice ad (2 * k) c)).toList, ∀ cur t, (w1.alloc (.cells #[stepV B 0 wr.heap.size, stepV B 1 wr.heap.size] 77)).heap[g']? = some (.cells cur t) → t ≠ 42 := by
          intro g' hg' cur t hc et
          rcases OW.out.2 with ⟨ev, _⟩ | ⟨g2, cap, cur2, ev, _, hg2, _⟩
          · rw [ev] at hg'
            simp [Value.ownBlock] at hg'
          · rw [ev] at hg'
            simp [Value.ownBlock] at hg'
            subst hg'
            rw [hg2] at hc
            cases hc
            exact absurd et (by decide)
        intro m sb hm
        by_cases hmk : m < bl.length
        · rw [List.getElem?_append_left hmk] at hm
          exact ((HK.out.2.2.1.kept (f1.trans f2) (by simp)).kept f5 hty) m sb hm
        · have hm' : m = k ∧ sb = wr.heap.size := by
            have h1 := (List.getElem?_eq_some_iff.1 hm).1
            rw [List.length_append, HK.out.1] at h1
            have h2 : m = k := by have := HK.out.1; simp at h1; omega
            subst h2
            rw [List.getElem?_append_right (by omega), HK.out.1, Nat.sub_self] at hm
            simp at hm
            exact ⟨rfl, hm.symm⟩
          obtain ⟨rfl, rfl⟩ := hm'
          refine ⟨HK.out.2.2.2.size, e, HE.out, ?_⟩
          have h3 := f2.same (by simp) hsb
          exact f5.same (fun hk' => hty _ hk' _ _ h3 rfl) h3
      · simp [intOf]
        omega
    · have q1 : ¬ (k : Int) < (N : Int) := by omega
      obtain rfl : k = N := by omega
      have F0 := fa.trans HK.out.2.2.2
      have BT := HH.out.quiet F0
      have iv0 : WInv wr b H V pg la lb S 0 0 wr b H := HI.out.base (BStep.quiet BT (Fr.refl [] wr))
      have hown : ∀ j, w.heap.size ≤ j → j ∉ b.dp :: b.x.own := fun j hj hm => by
        have := HH.out.lt j (by rcases List.mem_cons.1 hm with e | e <;> simp [e])
        omega
      have hold : ∀ j, w0.heap.size ≤ j → j ∉ b.dp :: b.x.own := fun j hj hm => by
        have := HNEW.out j hm
        omega
      go_wp2_with fail
      refine (inTurn_ok wr ad (2 * k) c (flB B bl) (by rw [flB_length, HK.out.1]) (by omega) (fun i wr' => ∃ b' H', WInv wr b H V pg la lb S ((i + 1) / 2) (i / 2) wr' b' H') ⟨b, H, by simpa using iv0⟩ ?_ ?_ ?_).mono ?_
      · rintro i wr' ⟨b', H', h'⟩ j p hp
        have hj := (List.getElem?_eq_some_iff.1 hp).1
        rw [flB_length, HK.out.1] at hj
        rcases HK.out.2.1.2 with ⟨ev, hn0⟩ | ⟨g', cap, cur, ev, hbase, hg', hnc, hcm, hcs, ht⟩
        · omega
        · cases ev
          refine ⟨g', rfl, ?_⟩
          have h3 := h'.st.fr.same (hown g' (Nat.le_trans fa.size hbase)) hg'
          rw [cell_of_row wr' g' j _ _ _ h3]
          have h4 : (cur.toList.take (2 * k * 1))[j]? = some (.func (.func p.1) #[] p.2.toArray) := by
            rw [ht, stepsV_fl, List.getElem?_map, hp]
            rfl
          rw [List.getElem?_take, if_pos (by omega)] at h4
          simpa using h4
      · intro i p hp w'
        obtain ⟨m, sb, _, ⟨_, rfl⟩ | ⟨_, rfl⟩⟩ := flB_at B bl i p hp
        · exact en_1 w' _
        · exact en_2 w' _
      · rintro i p hp wr' ⟨b', H', h'⟩
        obtain ⟨m, sb, hm, hip⟩ := flB_at B bl i p hp
        obtain ⟨hsb, e, he, hbox⟩ := HK.out.2.2.1 m sb hm
        have ok := spOk ha hb HS.out.eq he
        have hbx : SpBox wr' sb pg e.off e.bo e.bn e.n := h'.st.fr.same (hown sb (Nat.le_trans fa.size hsb)) hbox
        have hBB : wr'.heap[B]? = some (.cells #[.pointer (some ⟨b'.bp, 0, none⟩)] 60) := by
          rw [h'.st.bp]
          exact h'.st.fr.same (hown B (by rw [← HB.out]; exact Nat.le_refl _)) (HK.out.2.2.2.same (by simp) hB)
        have hnw := HS.out.new e (List.mem_of_getElem? he)
        have hbk := HS.out.blk e (List.mem_of_getElem? he)
        have ho : Blk wr' e.bo ((la.drop e.off).take e.n) := h'.st.fr.same (hold _ hnw.1) (F0.same (by simp) hbk.1)
        have hn : Blk wr' e.bn ((lb.drop e.off).take e.n) := h'.st.fr.same (hold _ hnw.2) (F0.same (by simp) hbk.2)
        have hbo : e.bn ∉ b'.x.own := fun hk' => by
          rcases h'.st.ow _ hk' with h3 | h3
          · exact hold _ hnw.2 (List.mem_cons_of_mem _ h3)
          · have h4 : e.bn < w.heap.size := (Array.getElem?_eq_some_iff.1 hbk.2).1
            have := F0.size
            omega
        have hmk : m < k := by
          have := (List.getElem?_eq_some_iff.1 hm).1
          rw [HK.out.1] at this
          exact this
        have l1 := logN_take S he
        have l2 := logN_le S (m + 1)
        have u1 := undN_le S m
        have u2 := undN_nonneg S
        have se := sumN_eq S
        have HR := HRM.out
        have hkn := keptOf_nonneg H
        rcases hip with ⟨rfl, rfl⟩ | ⟨rfl, rfl⟩
        · rw [show (2 * m + 1) / 2 = m by omega, show 2 * m / 2 = m by omega] at h'
          have tx : TxOk b' := ⟨by rw [h'.num]; exact hnum, by
            rw [h'.last]
            have h5 := h'.nx
            have h6 := h'.st.at'.po.lo.hE
            unfold placeB
            rw [decide_eq_true h5.1, decide_eq_true (by omega)]
            rfl, by rw [h'.tr.T]; exact hT0, by rw [h'.tr.T]; exact hT1⟩
          have hEb := h'.E
          refine (write1_any h'.st.at' tx hBB hbx ho hn ok.old ok.new ok.n0 ok.fit hpg2 ?_ ?_ ?_ ?_ ?_ ?_).mono ?_
          · rw [h'.tr.count, h'.tr.A, hEb]
            omega
          · omega
          · rw [h'.chg]
            omega
          · rw [h'.chg]
            omega
          · rw [h'.kept]
            exact keptOf_nonneg H'
          · rw [h'.kept, h'.keq]
            have hsb2 := sumN_bound S (fun x hx => by
              obtain ⟨q, hq⟩ := List.mem_iff_getElem?.1 hx
              have := (spOk ha hb HS.out.eq hq).fit
              omega)
            have hln := HS.out.len
            omega
          · rintro e' w9 ⟨rfl, y', ap, st⟩
            have h9 := h'.log he ok tx h'.st.at'.po.lo.hE hpg2 hpg ap st
            rw [show (2 * m + 1 + 1) / 2 = m + 1 by omega, show (2 * m + 1) / 2 = m by omega]
            exact ⟨rfl, _, _, h9⟩
        · rw [show (2 * m + 1 + 1) / 2 = m + 1 by omega, show (2 * m + 1) / 2 = m by omega] at h'
          have h5 := h'.nx
          have h6 := h'.one (by omega)
          refine (write2_any h'.st.at' hBB hbx (by rw [h'.tr.pages]; exact hpg) hn ok.new ok.n0 ok.fit hbo (by rw [h'.last]; exact h6) (by rw [h'.last]; exact h5.2)).mono ?_
          rintro e' w9 ⟨rfl, x'', hc, st⟩
          have h9 := h'.chg' ok hc st
          rw [show (2 * m + 1 + 1 + 1) / 2 = m + 1 by omega, show (2 * m + 1 + 1) / 2 = m + 1 by omega]
          exact ⟨rfl, _, _, h9⟩
      · rintro e w9 ⟨rfl, b', H', h9⟩
        rw [show (2 * k + 1) / 2 = k by omega, show 2 * k / 2 = k by omega] at h9
        go_wp2_with fail
        go_ret
        exact ⟨rfl, b', H', h9.base ((BStep.quiet HH.out F0).trans h9.st)⟩
end Go.Proofs.YtopaeomjndblkaaGreat

