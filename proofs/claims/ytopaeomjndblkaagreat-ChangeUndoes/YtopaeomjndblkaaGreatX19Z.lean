/-
  The book's Page and Put, within a transaction.
-/
import Derived.Test.YtopaeomjndblkaaGreatX18Z
namespace Go.Proofs.YtopaeomjndblkaaGreat
open Go.RowKit Go.Maps
open Pg (SpE diffS)

theorem infoSt : ∃ i, Tryz.prog.info? 77 = some i ∧ i.zero = some .nilFunc ∧ i.size = 1 ∧ i.bytes = 8 := by
  have h : (Tryz.prog.info? 77).map (fun i => (i.zero, i.size, i.bytes)) = some (some .nilFunc, 1, 8) := by kernel_rfl
  cases hi : Tryz.prog.info? 77 with
  | none => rw [hi] at h; cases h
  | some i =>
    rw [hi] at h
    simp at h
    exact ⟨i, rfl, h.1, h.2.1, h.2.2⟩
section
variable {ops : Array Oper} {rest : List Oper} {o : Oper} {a : Act} {w : World} {Q : Exit → Act → World → Prop}
/-- append of two steps. -/
theorem wp_appSt (hgd : o.guard = none) (s x : Operand) (ho : o.op = .call { callee := .builtin .append, args := #[s, x], argTypes := #[236, 236] }) (w0 : World) (ad : Option Addr) (n c : Nat) (xs : List Value) (b : Nat) (u v : Value) (hs : a.eval s = .slice ad n c) (hx : a.eval x = .slice (some ⟨b, 0, none⟩) 2 2)
    (hown : w.ownsRow w0.heap.size 77 1 (.slice ad n c) n xs) (f0 : Fr [] w0 w) (hb : w.heap[b]? = some (.cells #[u, v] 77)) (hu : u.oneCell' = true) (hv : v.oneCell' = true) (hm : n + 2 ≤ 10000)
    (h : ∀ g c' w', w'.ownsRow w0.heap.size 77 1 (.slice (some ⟨g, 0, none⟩) (n + 2) c') (n + 2) (xs ++ [u, v]) → Fr (Value.ownBlock (.slice ad n c)).toList w w' → Fr [] w0 w' → wpList Tryz.prog ops Q rest (a.put o.dst (.slice (some ⟨g, 0, none⟩) (n + 2) c')) w') : wpList Tryz.prog ops Q (o :: rest) a w :=
  wpList_plain hgd fun K hK => by
    obtain ⟨i, hi, hz, hsz, hbb⟩ := infoSt
    obtain ⟨v', w', hrun, h2, h3, h4, h5⟩ := run_append_own_at (P := Tryz.prog) w w0.heap.size 236 o.type 77 i .nilFunc 1 8 Tryz.underlying236 hi hz hsz hbb rfl (by omega) _ n xs hown ⟨b, 0, none⟩ 2 2 [u, v] (by simp)
      (by
        intro j x hx
        rw [Addr.add_mid, cell_of_row w b _ _ _ _ hb]
        simpa using hx) (by intro x hx; simp at hx; rcases hx with rfl | rfl <;> assumption) (by unfold maxLen; omega) (by omega) f0.size
    have hfr : Fr [] w0 w' := f0.grown h3 (fun j e hj => by
      have := (hown.lt j e).1
      omega)
    rcases h2.2 with ⟨e, hn0⟩ | ⟨g, c', cur, e, r⟩
    · omega
    · subst e
      unfold Oper.wp execOp
      simp [ho, resolve, invoke, builtin, hs, hx, hrun, Result.andThen]
      exact hK _ _ (h _ _ _ h2 ((Fr.refl _ _).grown h3 (fun j e _ => by simp [e])) hfr)
end
/-- The steps of the spans whose boxes are these. -/
def stepV (B : Nat) (i sb : Nat) : Value := .func (.func (if i = 0 then 197 else 199)) #[] #[.pointer (some ⟨B, 0, none⟩), .pointer (some ⟨sb, 0, none⟩)]
def stepsV (B : Nat) (bl : List Nat) : List Value := bl.flatMap fun sb => [stepV B 0 sb, stepV B 1 sb]
theorem stepsV_length (B : Nat) (bl : List Nat) : (stepsV B bl).length = 2 * bl.length := by
  induction bl with
  | nil => rfl
  | cons x r ih => simp [stepsV] at ih ⊢; omega
theorem stepsV_at (B : Nat) : ∀ (bl : List Nat) (m sb : Nat), bl[m]? = some sb → (stepsV B bl)[2 * m]? = some (stepV B 0 sb) ∧ (stepsV B bl)[2 * m + 1]? = some (stepV B 1 sb)
  | [], m, sb, h => by simp at h
  | x :: r, 0, sb, h => by
    simp at h
    subst h
    simp [stepsV]
  | x :: r, m + 1, sb, h => by
    have ih := stepsV_at B r m sb (by simpa using h)
    have e : stepsV B (x :: r) = stepV B 0 x :: stepV B 1 x :: stepsV B r := rfl
    rw [e, show 2 * (m + 1) = 2 * m + 2 by omega]
    exact ⟨by simpa using ih.1, by simpa using ih.2⟩
/-- The boxes of the first spans. -/
def Boxes (w : World) (lo pg : Nat) (S : List SpE) (bl : List Nat) : Prop := ∀ (m sb : Nat), bl[m]? = some sb → lo ≤ sb ∧ ∃ e : SpE, S[m]? = some e ∧ SpBox w sb pg e.off e.bo e.bn e.n
theorem Boxes.kept {w w' : World} {lo pg : Nat} {S : List SpE} {bl : List Nat} {L : List Nat} (h : Boxes w lo pg S bl) (f : Fr L w w') (hL : ∀ k ∈ L, ∀ cur t, w.heap[k]? = some (.cells cur t) → t ≠ 42) : Boxes w' lo pg S bl := fun m sb hm => by
  obtain ⟨h1, e, he, hb⟩ := h m sb hm
  exact ⟨h1, e, he, f.same (fun hk => hL sb hk _ _ hb rfl) hb⟩
def flB (B : Nat) (bl : List Nat) : List (FuncId × List Value) := bl.flatMap fun sb => [(197, [.pointer (some ⟨B, 0, none⟩), .pointer (some ⟨sb, 0, none⟩)]), (199, [.pointer (some ⟨B, 0, none⟩), .pointer (some ⟨sb, 0, none⟩)])]
theorem stepsV_fl (B : Nat) (bl : List Nat) : stepsV B bl = (flB B bl).map fun p => .func (.func p.1) #[] p.2.toArray := by
  induction bl with
  | nil => rfl
  | cons x r ih =>
    show stepV B 0 x :: stepV B 1 x :: stepsV B r = _
    rw [ih]
    rfl
theorem flB_length (B : Nat) (bl : List Nat) : (flB B bl).length = 2 * bl.length := by
  have h := stepsV_length B bl
  rw [stepsV_fl, List.length_map] at h
  exact h
theorem flB_at (B : Nat) : ∀ (bl : List Nat) (i : Nat) (p : FuncId × List Value), (flB B bl)[i]? = some p → ∃ m sb, bl[m]? = some sb ∧ ((i = 2 * m ∧ p = (197, [.pointer (some ⟨B, 0, none⟩), .pointer (some ⟨sb, 0, none⟩)])) ∨ (i = 2 * m + 1 ∧ p = (199, [.pointer (some ⟨B, 0, none⟩), .pointer (some ⟨sb, 0, none⟩)])))
  | [], i, p, h => by simp [flB] at h
  | x :: r, 0, p, h => ⟨0, x, rfl, Or.inl ⟨rfl, by simpa [flB] using h.symm⟩⟩
  | x :: r, 1, p, h => ⟨0, x, rfl, Or.inr ⟨rfl, by simpa [flB] using h.symm⟩⟩
  | x :: r, i + 2, p, h => by
    have e : flB B (x :: r) = (197, [.pointer (some ⟨B, 0, none⟩), .pointer (some ⟨x, 0, none⟩)]) :: (199, [.pointer (some ⟨B, 0, none⟩), .pointer (some ⟨x, 0, none⟩)]) :: flB B r := rfl
    rw [e] at h
    obtain ⟨m, sb, h1, h2⟩ := flB_at B r i p (by simpa using h)
    refine ⟨m + 1, sb, by simpa using h1, ?_⟩
    rcases h2 with ⟨h2, h3⟩ | ⟨h2, h3⟩
    · exact Or.inl ⟨by omega, h3⟩
    · exact Or.inr ⟨by omega, h3⟩
theorem en_1 (w : World) (l : Array Value) : (callFunc 197 l).run Tryz.prog w = .ok (.enter 197 l) w := by go_simp
theorem en_2 (w : World) (l : Array Value) : (callFunc 199 l).run Tryz.prog w = .ok (.enter 199 l) w := by go_simp
theorem WInv.base {w w' wr wr' : World} {b : Bk} {H : List Ch} {V : Pages} {pg : Nat} {la lb : List UInt8} {S : List SpE} {k j : Nat} {b' : Bk} {H' : List Ch} (h : WInv w b H V pg la lb S k j wr b' H') (st : BStep w' wr' b b') : WInv w' b H V pg la lb S k j wr' b' H' := { h with st := st }
set_option maxHeartbeats 2000000 in
set_option maxRecDepth 100000 in
theorem write_any {w : World} {b : Bk} (h : BkAt w b) {H : List Ch} {V : Pages} {pg : Nat} {la lb : List UInt8} {w0 : World} {AD : Option Addr} {N CAP : Nat} {S : List SpE} (hS : Spans w0 w la lb (pg : Int) AD N CAP S) (ha : la.length = 512) (hb : lb.length = 512) (hpg : pg < b.x.pages) (hpg2 : pg < 65536)
    (hnew : ∀ k ∈ b.dp :: b.x.own, k < w0.heap.size) (iv : WInv w b H V pg la lb S 0 0 w b H) (hnum : placeB b.t.num = true) (hT0 : 1 ≤ b.x.y.T) (hT1 : b.x.y.T ≤ 2147483647) (hroom : keptOf H + 35 + sumN S ≤ 408 * (b.x.y.count - 1) - ((b.x.y.E : Int) - (b.x.y.A : Int))) (hE : b.x.y.E + logN S ≤ 400000) (hc0 : 0 ≤ b.t.chg) (hc1 : b.t.chg ≤ 900000) (hk1 : keptOf H ≤ 700000) :
    Calls Tryz.prog 99 #[.pointer (some ⟨b.bp, 0, none⟩), .slice AD N CAP] w fun e w' => e = .returned (.int .i64 0) ∧ ∃ b' H', WInv w b H V pg la lb S N N w' b' H' := by
  have HS := hidI hS
  have hN := hS.few
  have HI := hidI iv
  have HH := hidI h
  have HNEW := hidI hnew
  have HRM := hidI hroom
  have fa : Fr [] w (w.alloc (.cells #[.pointer (some ⟨b.bp, 0, none⟩)] 60)) := (Fr.refl [] w).alloc _
  have hB := heap_alloc_new w (.cells #[.pointer (some ⟨b.bp, 0, none⟩)] 60)
  obtain ⟨wa, hwa⟩ : ∃ wa, w.alloc (.cells #[.pointer (some ⟨b.bp, 0, none⟩)] 60) = wa := ⟨_, rfl⟩
  rw [hwa] at fa hB
  obtain ⟨B, HB⟩ : ∃ B, Hid (w.heap.size = B) := ⟨_, rfl⟩
  rw [HB.out] at hB
  clear h hS iv hnew hroom
  go_enter Tryz.func99, Tryz.ntmps99
  go_wp2_with fail
  rw [HB.out]
  go_loopw [5, 11] (fun s5 s11 wr => ∃ k : Nat, ∃ ad c bl, s5 = .slice ad (2 * k) c ∧ s11 = .int .i64 (k : Int) ∧ k ≤ N ∧ Hid (bl.length = k ∧ wr.ownsRow wa.heap.size 77 1 (.slice ad (2 * k) c) (2 * k) (stepsV B bl) ∧ Boxes wr wa.heap.size pg S bl ∧ Fr [] wa wr)) (fun _ i _ => N - (intOf i).toNat)
  case atStart => exact ⟨0, none, 0, [], rfl, rfl, by omega, hidI ⟨rfl, World.ownsRow_nil _ _ _ _, fun m sb hm => by simp at hm, Fr.refl _ _⟩⟩
  case round =>
    obtain ⟨k, ad, c, bl, rfl, rfl, hk, HK⟩ := hrel
    have hcB : wr.cell? ⟨B, 0, none⟩ = some (.pointer (some ⟨b.bp, 0, none⟩)) := cell_of_row wr B 0 _ _ _ (HK.out.2.2.2.same (by simp) hB)
    by_cases hlt : k < N
    · have q1 : (k : Int) < (N : Int) := by omega
      have q0 : (0 : Int) ≤ (k : Int) := by omega
      obtain ⟨e, he⟩ : ∃ e, S[k]? = some e := ⟨_, List.getElem?_eq_getElem (by have := HS.out.len; omega)⟩
      obtain ⟨g, hAD, hg0, hrow⟩ : ∃ g, AD = some ⟨g, 0, none⟩ ∧ w0.heap.size ≤ g ∧ SpRow w g N (pg : Int) S := HS.out.row.resolve_left (by omega)
      subst hAD
      obtain ⟨k0, k1, k2, k3⟩ := (hrow.kept (fa.trans HK.out.2.2.2) (by simp)).cells he
      rw [if_pos hlt] at k0
      have HE := hidI he
      clear he hrow
      have f1 : Fr [] wr (wr.alloc (.cells #[.int .i64 (pg : Int), .int .i64 (e.off : Int), .slice (some ⟨e.bo, 0, none⟩) e.n e.n, .slice (some ⟨e.bn, 0, none⟩) e.n e.n] 42)) := (Fr.refl [] wr).alloc _
      have hsb := heap_alloc_new wr (.cells #[.int .i64 (pg : Int), .int .i64 (e.off : Int), .slice (some ⟨e.bo, 0, none⟩) e.n e.n, .slice (some ⟨e.bn, 0, none⟩) e.n e.n] 42)
      have hsz1 : (wr.alloc (.cells #[.int .i64 (pg : Int), .int .i64 (e.off : Int), .slice (some ⟨e.bo, 0, none⟩) e.n e.n, .slice (some ⟨e.bn, 0, none⟩) e.n e.n] 42)).heap.size = wr.heap.size + 1 := by simp
      obtain ⟨w1, hw1⟩ : ∃ w1, wr.alloc (.cells #[.int .i64 (pg : Int), .int .i64 (e.off : Int), .slice (some ⟨e.bo, 0, none⟩) e.n e.n, .slice (some ⟨e.bn, 0, none⟩) e.n e.n] 42) = w1 := ⟨_, rfl⟩
      rw [hw1] at f1 hsb hsz1
      have f2 : Fr [] w1 (w1.alloc (.cells #[stepV B 0 wr.heap.size, stepV B 1 wr.heap.size] 77)) := (Fr.refl [] w1).alloc _
      have hst := heap_alloc_new w1 (.cells #[stepV B 0 wr.heap.size, stepV B 1 wr.heap.size] 77)
      have OW : Hid ((w1.alloc (.cells #[stepV B 0 wr.heap.size, stepV B 1 wr.heap.size] 77)).ownsRow wa.heap.size 77 1 (.slice ad (2 * k) c) (2 * k) (stepsV B bl)) := hidI (by
        obtain ⟨h1, h2⟩ := HK.out.2.1
        refine ⟨h1, ?_⟩
        rcases h2 with hn | ⟨g', cap, cur, e1, hb', hg', r⟩
        · exact Or.inl hn
        · exact Or.inr ⟨g', cap, cur, e1, hb', (f1.trans f2).same (by simp) hg', r⟩)
      have FW : Hid (Fr [] wa (w1.alloc (.cells #[stepV B 0 wr.heap.size, stepV B 1 wr.heap.size] 77))) := hidI ((HK.out.2.2.2.trans f1).trans f2)
      have HST := hidI hst
      rw [hsz1] at HST
      go_wp2_with (refine wp_appSt rfl _ _ rfl wa ad (2 * k) c (stepsV B bl) (wr.heap.size + 1) (stepV B 0 wr.heap.size) (stepV B 1 wr.heap.size) rfl rfl OW.out FW.out HST.out rfl rfl (by omega) ?_; intro g5 c5 w5 o5 f5 fr5)
      refine ⟨⟨k + 1, some ⟨g5, 0, none⟩, c5, bl ++ [wr.heap.size], rfl, by go_num, by omega, hidI ⟨by rw [List.length_append, HK.out.1]; rfl, ?_, ?_, fr5⟩⟩, ?_⟩
      · have e5 : stepsV B (bl ++ [wr.heap.size]) = stepsV B bl ++ [stepV B 0 wr.heap.size, stepV B 1 wr.heap.size] := by simp [stepsV]
        rw [e5]
        exact o5
      · have hty : ∀ g' ∈ (Value.ownBlock (.slice ad (2 * k) c)).toList, ∀ cur t, (w1.alloc (.cells #[stepV B 0 wr.heap.size, stepV B 1 wr.heap.size] 77)).heap[g']? = some (.cells cur t) → t ≠ 42 := by
          intro g' hg' cur t hc et
          rcases OW.out.2 with ⟨ev, _⟩ | ⟨g2, cap, cur2, ev, _, hg2, _⟩
          · rw [ev] at hg'
            simp [Value.ownBlock] at hg'
          · rw [ev] at hg'
            simp [Value.ownBlock] at hg'
            subst hg'
            rw [hg2] at hc
            cases hc
            exact absurd et (by decide)
        intro m sb hm
        by_cases hmk : m < bl.length
        · rw [List.getElem?_append_left hmk] at hm
          exact ((HK.out.2.2.1.kept (f1.trans f2) (by simp)).kept f5 hty) m sb hm
        · have hm' : m = k ∧ sb = wr.heap.size := by
            have h1 := (List.getElem?_eq_some_iff.1 hm).1
            rw [List.length_append, HK.out.1] at h1
            have h2 : m = k := by have := HK.out.1; simp at h1; omega
            subst h2
            rw [List.getElem?_append_right (by omega), HK.out.1, Nat.sub_self] at hm
            simp at hm
            exact ⟨rfl, hm.symm⟩
          obtain ⟨rfl, rfl⟩ := hm'
          refine ⟨HK.out.2.2.2.size, e, HE.out, ?_⟩
          have h3 := f2.same (by simp) hsb
          exact f5.same (fun hk' => hty _ hk' _ _ h3 rfl) h3
      · simp [intOf]
        omega
    · have q1 : ¬ (k : Int) < (N : Int) := by omega
      obtain rfl : k = N := by omega
      have F0 := fa.trans HK.out.2.2.2
      have BT := HH.out.quiet F0
      have iv0 : WInv wr b H V pg la lb S 0 0 wr b H := HI.out.base (BStep.quiet BT (Fr.refl [] wr))
      have hown : ∀ j, w.heap.size ≤ j → j ∉ b.dp :: b.x.own := fun j hj hm => by
        have := HH.out.lt j (by rcases List.mem_cons.1 hm with e | e <;> simp [e])
        omega
      have hold : ∀ j, w0.heap.size ≤ j → j ∉ b.dp :: b.x.own := fun j hj hm => by
        have := HNEW.out j hm
        omega
      go_wp2_with fail
      refine (inTurn_ok wr ad (2 * k) c (flB B bl) (by rw [flB_length, HK.out.1]) (by omega) (fun i wr' => ∃ b' H', WInv wr b H V pg la lb S ((i + 1) / 2) (i / 2) wr' b' H') ⟨b, H, by simpa using iv0⟩ ?_ ?_ ?_).mono ?_
      · rintro i wr' ⟨b', H', h'⟩ j p hp
        have hj := (List.getElem?_eq_some_iff.1 hp).1
        rw [flB_length, HK.out.1] at hj
        rcases HK.out.2.1.2 with ⟨ev, hn0⟩ | ⟨g', cap, cur, ev, hbase, hg', hnc, hcm, hcs, ht⟩
        · omega
        · cases ev
          refine ⟨g', rfl, ?_⟩
          have h3 := h'.st.fr.same (hown g' (Nat.le_trans fa.size hbase)) hg'
          rw [cell_of_row wr' g' j _ _ _ h3]
          have h4 : (cur.toList.take (2 * k * 1))[j]? = some (.func (.func p.1) #[] p.2.toArray) := by
            rw [ht, stepsV_fl, List.getElem?_map, hp]
            rfl
          rw [List.getElem?_take, if_pos (by omega)] at h4
          simpa using h4
      · intro i p hp w'
        obtain ⟨m, sb, _, ⟨_, rfl⟩ | ⟨_, rfl⟩⟩ := flB_at B bl i p hp
        · exact en_1 w' _
        · exact en_2 w' _
      · rintro i p hp wr' ⟨b', H', h'⟩
        obtain ⟨m, sb, hm, hip⟩ := flB_at B bl i p hp
        obtain ⟨hsb, e, he, hbox⟩ := HK.out.2.2.1 m sb hm
        have ok := spOk ha hb HS.out.eq he
        have hbx : SpBox wr' sb pg e.off e.bo e.bn e.n := h'.st.fr.same (hown sb (Nat.le_trans fa.size hsb)) hbox
        have hBB : wr'.heap[B]? = some (.cells #[.pointer (some ⟨b'.bp, 0, none⟩)] 60) := by
          rw [h'.st.bp]
          exact h'.st.fr.same (hown B (by rw [← HB.out]; exact Nat.le_refl _)) (HK.out.2.2.2.same (by simp) hB)
        have hnw := HS.out.new e (List.mem_of_getElem? he)
        have hbk := HS.out.blk e (List.mem_of_getElem? he)
        have ho : Blk wr' e.bo ((la.drop e.off).take e.n) := h'.st.fr.same (hold _ hnw.1) (F0.same (by simp) hbk.1)
        have hn : Blk wr' e.bn ((lb.drop e.off).take e.n) := h'.st.fr.same (hold _ hnw.2) (F0.same (by simp) hbk.2)
        have hbo : e.bn ∉ b'.x.own := fun hk' => by
          rcases h'.st.ow _ hk' with h3 | h3
          · exact hold _ hnw.2 (List.mem_cons_of_mem _ h3)
          · have h4 : e.bn < w.heap.size := (Array.getElem?_eq_some_iff.1 hbk.2).1
            have := F0.size
            omega
        have hmk : m < k := by
          have := (List.getElem?_eq_some_iff.1 hm).1
          rw [HK.out.1] at this
          exact this
        have l1 := logN_take S he
        have l2 := logN_le S (m + 1)
        have u1 := undN_le S m
        have u2 := undN_nonneg S
        have se := sumN_eq S
        have HR := HRM.out
        have hkn := keptOf_nonneg H
        rcases hip with ⟨rfl, rfl⟩ | ⟨rfl, rfl⟩
        · rw [show (2 * m + 1) / 2 = m by omega, show 2 * m / 2 = m by omega] at h'
          have tx : TxOk b' := ⟨by rw [h'.num]; exact hnum, by
            rw [h'.last]
            have h5 := h'.nx
            have h6 := h'.st.at'.po.lo.hE
            unfold placeB
            rw [decide_eq_true h5.1, decide_eq_true (by omega)]
            rfl, by rw [h'.tr.T]; exact hT0, by rw [h'.tr.T]; exact hT1⟩
          have hEb := h'.E
          refine (write1_any h'.st.at' tx hBB hbx ho hn ok.old ok.new ok.n0 ok.fit hpg2 ?_ ?_ ?_ ?_ ?_ ?_).mono ?_
          · rw [h'.tr.count, h'.tr.A, hEb]
            omega
          · omega
          · rw [h'.chg]
            omega
          · rw [h'.chg]
            omega
          · rw [h'.kept]
            exact keptOf_nonneg H'
          · rw [h'.kept, h'.keq]
            have hsb2 := sumN_bound S (fun x hx => by
              obtain ⟨q, hq⟩ := List.mem_iff_getElem?.1 hx
              have := (spOk ha hb HS.out.eq hq).fit
              omega)
            have hln := HS.out.len
            omega
          · rintro e' w9 ⟨rfl, y', ap, st⟩
            have h9 := h'.log he ok tx h'.st.at'.po.lo.hE hpg2 hpg ap st
            rw [show (2 * m + 1 + 1) / 2 = m + 1 by omega, show (2 * m + 1) / 2 = m by omega]
            exact ⟨rfl, _, _, h9⟩
        · rw [show (2 * m + 1 + 1) / 2 = m + 1 by omega, show (2 * m + 1) / 2 = m by omega] at h'
          have h5 := h'.nx
          have h6 := h'.one (by omega)
          refine (write2_any h'.st.at' hBB hbx (by rw [h'.tr.pages]; exact hpg) hn ok.new ok.n0 ok.fit hbo (by rw [h'.last]; exact h6) (by rw [h'.last]; exact h5.2)).mono ?_
          rintro e' w9 ⟨rfl, x'', hc, st⟩
          have h9 := h'.chg' ok hc st
          rw [show (2 * m + 1 + 1 + 1) / 2 = m + 1 by omega, show (2 * m + 1 + 1) / 2 = m + 1 by omega]
          exact ⟨rfl, _, _, h9⟩
      · rintro e w9 ⟨rfl, b', H', h9⟩
        rw [show (2 * k + 1) / 2 = k by omega, show 2 * k / 2 = k by omega] at h9
        go_wp2_with fail
        go_ret
        exact ⟨rfl, b', H', h9.base ((BStep.quiet HH.out F0).trans h9.st)⟩
end Go.Proofs.YtopaeomjndblkaaGreat

namespace Go.Proofs.YtopaeomjndblkaaGreat
open Go.RowKit Go.Maps
open Pg (SpE diffS)

/-- A book in a transaction: its changes, its pages. -/
structure InTx (b : Bk) (H : List Ch) (V : Pages) : Prop where
  st : b.t.st = 1
  und : b.t.und = 0
  num : placeB b.t.num = true
  kept : b.t.kept = keptOf H
  next : b.t.next = nextOf H
  last : b.t.last = nextOf H
  nx : 0 ≤ nextOf H ∧ nextOf H ≤ (b.x.y.E : Int)
  chain : Chain b.x.y b.t.num H
  sh : Shows b.x V
  t0 : 1 ≤ b.x.y.T
  t1 : b.x.y.T ≤ 2147483647
  c0 : 0 ≤ b.t.chg
  c1 : b.t.chg ≤ (b.x.y.E : Int)
  k1 : 5 * keptOf H ≤ 6 * (b.x.y.E : Int)
  room : keptOf H + 35 ≤ 408 * (b.x.y.count - 1) - ((b.x.y.E : Int) - (b.x.y.A : Int))
  pgs : ∀ c ∈ H, c.pg < b.x.pages
theorem LsOk.kin {y y' : Lo} (h : LsOk y) (k : Kin y y') : LsOk y' := ⟨by rw [k.ls]; exact h.rise, by rw [k.ls, k.A, k.E]; exact h.le⟩
theorem InTx.kin {b : Bk} {H : List Ch} {V : Pages} (h : InTx b H V) {x' : Po} (k : Kin b.x.y x'.y) (al : Alike b.x x') : InTx { b with x := x' } H V :=
  ⟨h.st, h.und, h.num, h.kept, h.next, h.last, by show 0 ≤ nextOf H ∧ nextOf H ≤ (x'.y.E : Int); rw [k.E]; exact h.nx, h.chain.kin k, h.sh.alike al, by show 1 ≤ x'.y.T; rw [k.T]; exact h.t0, by show x'.y.T ≤ _; rw [k.T]; exact h.t1, h.c0, by show b.t.chg ≤ (x'.y.E : Int); rw [k.E]; exact h.c1, by show 5 * keptOf H ≤ 6 * (x'.y.E : Int); rw [k.E]; exact h.k1, by show keptOf H + 35 ≤ 408 * (x'.y.count - 1) - ((x'.y.E : Int) - (x'.y.A : Int)); rw [k.count, k.E, k.A]; exact h.room, fun c hc => by show c.pg < x'.pages; rw [al.2.1]; exact h.pgs c hc⟩
/-- What is behind a page that was read. -/
structure BRead (w w' : World) (b : Bk) (x' : Po) (page g : Nat) (l : List UInt8) : Prop where
  blk : Blk w' g l
  new : w.heap.size ≤ g
  out : g ∉ x'.own
  val : Val b.x page l
  al : Alike b.x x'
  kin : Kin b.x.y x'.y
  st : BStep w w' b { b with x := x' }
theorem bread_any {w : World} {b : Bk} (h : BkAt w b) {page : Nat} (hp : page < b.x.pages) :
    Calls Tryz.prog 71 #[.pointer (some ⟨b.x.pp, 0, none⟩), .int .i64 (page : Int)] w fun e w' => ∃ g, e = .returned (.tuple #[.slice (some ⟨g, 0, none⟩) 512 512, .int .i64 0]) ∧ ∃ x' l, BRead w w' b x' page g l := by
  refine (read_any h.po hp).mono ?_
  rintro e w' (⟨rfl, hbz, _⟩ | ⟨f, x', j, g, rfl, st, hf, hj, hb, hg, hgo⟩)
  · exact (hbz.no h.hd0 h.po.m0).elim
  · obtain ⟨al, hv, _⟩ := hf.alike h.po.nod
    exact ⟨g, rfl, x', f.l, hb, hg, hgo, hv, al, hf.kin, BStep.pool h st hf.kin.d hf.kin.p al.2.2.2.1 (hf.hd0 h.hd0).1 (h.ls.kin hf.kin)⟩
/-- Room as the book asks for it. -/
def Bk.room (b : Bk) : Int := 408 * (b.x.y.count - 1) - ((b.x.y.E : Int) - (b.x.y.A : Int))
theorem broom_any {w : World} {b : Bk} (h : BkAt w b) : Calls Tryz.prog 89 #[.pointer (some ⟨b.x.y.p, 0, none⟩)] w fun e w' => e = .returned (.int .i64 b.room) ∧ Fr [] w w' := by
  have n2 := h.po.lo.dev.n2
  have f0 := h.po.lo.f0
  have f1 := h.po.lo.f1
  have hE := h.po.lo.hE
  have hAE := h.po.lo.hAE
  refine (room_any w b.x.y.p b.x.y.d b.x.y.lg h.po.lo.box rfl h.po.lo.c0 (by show b.x.y.count ≤ 65536; omega) (by show (1 : Int) ≤ (b.x.y.A : Int) + 1; omega) (by show (b.x.y.A : Int) + 1 ≤ (b.x.y.E : Int) + 1; omega) (by show (b.x.y.E : Int) + 1 ≤ 4611686018427387904; omega)).mono ?_
  rintro e w' ⟨nq, rfl, hw⟩
  refine ⟨?_, by rw [hw]; exact (Fr.refl [] w).drewN nq⟩
  show Ending.returned (.int .i64 (408 * (b.x.y.count - 1) - (((b.x.y.E : Int) + 1) - ((b.x.y.A : Int) + 1)))) = _
  unfold Bk.room
  rw [show ((b.x.y.E : Int) + 1) - ((b.x.y.A : Int) + 1) = (b.x.y.E : Int) - (b.x.y.A : Int) by omega]
/-- A page that was put: its spans; the book behind it. -/
structure PutOk (w w' : World) (b : Bk) (H : List Ch) (V : Pages) (page : Nat) (data : List UInt8) (S : List SpE) (b' : Bk) (H' : List Ch) : Prop where
  st : BStep w w' b b'
  tr : Tr b b'
  tx : InTx b' H' (setPg V page data)
  un : undoAll H' (setPg V page data) = undoAll H V
  chg : b'.t.chg = b.t.chg + (S.length : Int)
  E : b'.x.y.E = b.x.y.E + logN S
  num : b'.t.num = b.t.num
structure PutNo (w w' : World) (b : Bk) (H : List Ch) (V : Pages) (b' : Bk) : Prop where
  st : BStep w w' b b'
  tr : Tr b b'
  tx : InTx b' H V
  t : b'.t = b.t
  E : b'.x.y.E = b.x.y.E
def PutTo (w w' : World) (b : Bk) (H : List Ch) (V : Pages) (page : Nat) (data : List UInt8) (S : List SpE) (c : Int) : Prop :=
  (c = 5 ∧ b.room < keptOf H + 35 + sumN S ∧ ∃ b', PutNo w w' b H V b') ∨ (c = 0 ∧ keptOf H + 35 + sumN S ≤ b.room ∧ ∃ b' H', PutOk w w' b H V page data S b' H')
theorem k1_step {H H' : List Ch} {S : List SpE} {E : Nat} (h : 5 * keptOf H ≤ 6 * (E : Int)) (hq : keptOf H' = keptOf H + undN S) (hn : ∀ e ∈ S, 1 ≤ e.n) : 5 * keptOf H' ≤ 6 * ((E + logN S : Nat) : Int) := by
  have key : ∀ S : List SpE, (∀ e ∈ S, 1 ≤ e.n) → 5 * undN S ≤ 6 * (logN S : Int) := by
    intro S
    induction S with
    | nil => simp [undN, logN]
    | cons e S ih =>
      intro hS
      have h1 := ih (fun x hx => hS x (List.mem_cons_of_mem _ hx))
      have h2 := hS e List.mem_cons_self
      simp only [undN, logN]
      omega
  have := key S hn
  rw [hq]
  omega
theorem chg_step {S : List SpE} : S.length ≤ logN S := by
  induction S with
  | nil => simp [logN]
  | cons e S ih => simp only [logN, List.length_cons]; omega
def lenN : List SpE → Nat
  | [] => 0
  | e :: S => e.n + lenN S
theorem lenN_app (S T : List SpE) : lenN (S ++ T) = lenN S + lenN T := by
  induction S with
  | nil => simp [lenN]
  | cons e S ih => simp [lenN, ih]; omega
theorem logN_len : ∀ S : List SpE, logN S = 43 * S.length + 2 * lenN S
  | [] => by simp [logN, lenN]
  | e :: S => by
    have := logN_len S
    simp only [logN, lenN, List.length_cons]
    omega
theorem len_last {la lb : List UInt8} {S : List SpE} (hS : S.map (fun e => (e.off, e.off + e.n)) = diffS la lb) : ∀ k, k ≤ S.length → lenN (S.take k) ≤ Pg.lastE (diffS la lb) k
  | 0, _ => by simp [lenN]
  | k + 1, hk => by
    have ih := len_last hS k (by omega)
    have he : S[k]? = some S[k] := List.getElem?_eq_getElem (by omega)
    have hkd : k < (diffS la lb).length := by rw [← hS, List.length_map]; omega
    have hde : (diffS la lb)[k]'hkd = (S[k].off, S[k].off + S[k].n) := by
      have h1 : (diffS la lb)[k]? = some (S[k].off, S[k].off + S[k].n) := by rw [← hS, List.getElem?_map, he]; rfl
      exact (List.getElem?_eq_some_iff.1 h1).2
    have ok := Pg.diff_tok la lb k hkd
    rw [hde] at ok
    have h3 := ok.gap
    rw [Pg.lastE_succ _ k hkd, hde, List.take_add_one, he, lenN_app]
    simp [lenN]
    dsimp only at h3
    omega
theorem logN_bound {la lb : List UInt8} {S : List SpE} (hS : S.map (fun e => (e.off, e.off + e.n)) = diffS la lb) : logN S ≤ 3475 := by
  have h1 := len_last hS S.length (Nat.le_refl _)
  rw [List.take_length] at h1
  have h2 := diff_few la lb
  have h3 : S.length = (diffS la lb).length := by rw [← hS, List.length_map]
  have h4 : Pg.lastE (diffS la lb) S.length ≤ 512 := by
    unfold Pg.lastE
    split
    · omega
    · have hl : S.length - 1 < (diffS la lb).length := by omega
      rw [List.getD_eq_getElem?_getD, List.getElem?_eq_getElem hl]
      exact Pg.diff_ends la lb _ (List.getElem_mem hl)
  rw [logN_len]
  omega
theorem setPg_self {V : Pages} {q : Nat} {l : List UInt8} (h : V q = l) : setPg V q l = V := by
  funext k
  unfold setPg
  by_cases e : k = q
  · rw [if_pos e, e, h]
  · rw [if_neg e]
theorem Spans.kept {w0 w w' : World} {la lb : List UInt8} {pg : Int} {AD : Option Addr} {N CAP : Nat} {S : List SpE} (h : Spans w0 w la lb pg AD N CAP S) (f : Fr [] w w') : Spans w0 w' la lb pg AD N CAP S :=
  ⟨h.eq, h.len, h.few, h.cap, h.row.imp id (fun ⟨g', h7, h8, h9⟩ => ⟨g', h7, h8, h9.kept f (by simp)⟩), fun e he => ⟨f.same (by simp) (h.blk e he).1, f.same (by simp) (h.blk e he).2⟩, h.new⟩
theorem winv_zero {w : World} {b : Bk} (h : BkAt w b) {H : List Ch} {V : Pages} (tx : InTx b H V) {pg : Nat} {la lb : List UInt8} (hla : V pg = la) (S : List SpE) : WInv w b H V pg la lb S 0 0 w b H := by
  have e1 : setPg V pg (mixK la lb 0) = V := by rw [mixK_zero]; exact setPg_self hla
  refine ⟨BStep.quiet h (Fr.refl [] w), Tr.refl b, rfl, rfl, rfl, by simp, by simp [logN], tx.kept, by simp [undN], tx.next, tx.last, tx.nx, tx.chain, ?_, ?_, fun e => absurd e (by omega), tx.pgs⟩
  · rw [e1]
    exact tx.sh
  · rw [e1]
theorem winv_end {w wr : World} {b b' : Bk} {H H' : List Ch} {V : Pages} (tx : InTx b H V) {pg : Nat} {la lb : List UInt8} {S : List SpE} (ha : la.length = 512) (hb : lb.length = 512) (hS : S.map (fun e => (e.off, e.off + e.n)) = diffS la lb) (hn : ∀ e ∈ S, 1 ≤ e.n) (hroom : keptOf H + 35 + sumN S ≤ b.room) (h : WInv w b H V pg la lb S S.length S.length wr b' H') : PutOk w wr b H V pg lb S b' H' := by
  have e0 : mixK la lb S.length = lb := by
    have h1 := mixK_all ha hb
    rw [← hS, List.length_map] at h1
    exact h1
  have e1 : S.take S.length = S := List.take_length
  have hE := h.E
  have hkeq := h.keq
  have hsh := h.sh
  have hun := h.un
  rw [e1] at hE hkeq
  rw [e0] at hsh hun
  have hse := sumN_eq S
  have hcs := chg_step (S := S)
  have hc1 := tx.c1
  have hc0 := tx.c0
  refine ⟨h.st, h.tr, ⟨h.ss.trans tx.st, h.und.trans tx.und, by rw [h.num]; exact tx.num, h.kept, h.next, h.last, h.nx, by rw [h.num]; exact h.chain, hsh, by rw [h.tr.T]; exact tx.t0, by rw [h.tr.T]; exact tx.t1, by rw [h.chg]; omega, by rw [h.chg, hE]; omega, ?_, ?_, fun c hc => by rw [h.tr.pages]; exact h.pgs c hc⟩, hun, h.chg, hE, h.num⟩
  · rw [hE]
    exact k1_step tx.k1 hkeq hn
  · unfold Bk.room at hroom
    rw [h.tr.count, h.tr.A, hE, hkeq]
    omega
set_option maxHeartbeats 2000000 in
set_option maxRecDepth 100000 in
theorem put_in {w : World} {b : Bk} (h : BkAt w b) {H : List Ch} {V : Pages} (tx : InTx b H V) {page : Nat} (hp : page < b.x.pages) (hp2 : b.x.pages ≤ 65536) {g o c : Nat} {data : List UInt8} (hd : data.length = 512) (hc : 512 ≤ c) (hb : BytesAt w (some ⟨g, o, none⟩) data) (hgo : g ∉ b.dp :: b.x.own) (hE : b.x.y.E ≤ 390000) :
    Calls Tryz.prog 31 #[.pointer (some ⟨b.bp, 0, none⟩), .int .i64 (page : Int), .slice (some ⟨g, o, none⟩) 512 c] w fun e w' => ∃ r : Int, e = .returned (.int .i64 r) ∧ ∃ S : List SpE, S.map (fun e => (e.off, e.off + e.n)) = diffS (V page) data ∧ PutTo w w' b H V page data S r := by
  have HH := hidI h
  have HT := hidI tx
  have fa : Fr [] w (w.alloc (.cells #[.int .i64 1] 166)) := (Fr.refl [] w).alloc _
  have hst := heap_alloc_new w (.cells #[.int .i64 1] 166)
  obtain ⟨w1, hw1⟩ : ∃ w1, w.alloc (.cells #[.int .i64 1] 166) = w1 := ⟨_, rfl⟩
  rw [hw1] at fa hst
  have H1 := hidI (h.quiet fa)
  have c2 : w1.cell? ⟨b.bp, 2, none⟩ = some (.pointer (some ⟨b.x.pp, 0, none⟩)) := H1.out.box.c2
  have HS1 := hidI (cell_of_row w1 w.heap.size 0 _ _ _ hst)
  have q0 : ¬ (page : Int) < 0 := by omega
  have q1 : ¬ (b.x.pages : Int) ≤ (page : Int) := by omega
  clear h tx hst
  go_enter Tryz.func31, Tryz.ntmps31
  go_wp2_with (first
    | (go_at_call 96; refine (within_in H1.out.box H1.out.dl HT.out.st w.heap.size 1 1 (by omega) HS1.out).mono ?_; rintro e wz ⟨rfl, hz⟩; rw [hz]; clear hz)
    | (go_at_call 17; refine (pages_any H1.out.po.box).mono ?_; rw [show b.x.pf.pages = b.x.pages from rfl]; rintro e wz ⟨rfl, hz⟩; rw [hz]; clear hz))
  refine (bread_any H1.out hp).mono ?_
  rintro e w2 ⟨g2, rfl, x2, la, R2⟩
  have hla : V page = la := (HT.out.sh page hp |>.uniq H1.out.po.nod R2.val)
  have TX2 := hidI (HT.out.kin R2.kin R2.al)
  have HR2 := hidI R2
  have hla5 : la.length = 512 := R2.val.len H1.out.po
  have A1 : Pg.At512 w2 g2 0 512 la := ⟨hla5, Blk.bytes R2.blk, by omega⟩
  have hbd : BytesAt w2 (some ⟨g, o, none⟩) data := (hb.kept fa (by simp)).kept R2.st.fr (fun b' o' e => by cases e; exact hgo)
  have A2 : Pg.At512 w2 g o c data := ⟨hd, hbd, hc⟩
  have HA1 := hidI A1
  have HA2 := hidI A2
  clear R2 A1 A2 c2
  go_wp2_with fail
  refine (differing_any w2 page g2 0 512 g o c la data HA1.out HA2.out).mono ?_
  rintro e w3 ⟨AD, N, CAP, rfl, ⟨S, SP⟩, f3⟩
  have HSP := hidI SP
  have B3 := hidI (HR2.out.st.at'.quiet f3)
  have c3 : w3.cell? ⟨b.bp, 3, none⟩ = some (.pointer (some ⟨b.dp, 0, none⟩)) := B3.out.box.c3
  have c1 : w3.cell? ⟨b.bp, 1, none⟩ = some (.pointer (some ⟨x2.y.p, 0, none⟩)) := B3.out.box.c1
  clear SP
  have SK : Hid (∀ w', Fr [] w3 w' → (w'.cell? ⟨b.bp, 3, none⟩ = some (.pointer (some ⟨b.dp, 0, none⟩)) ∧ w'.cell? ⟨b.bp, 1, none⟩ = some (.pointer (some ⟨x2.y.p, 0, none⟩)))) := hidI (fun w' f => ⟨(B3.out.quiet f).box.c3, (B3.out.quiet f).box.c1⟩)
  have hkq := TX2.out.k1
  have hkE : (x2.y.E : Int) = (b.x.y.E : Int) := by rw [HR2.out.kin.E]
  have hk1 : keptOf H ≤ 500000 := by
    have e1 : 5 * keptOf H ≤ 6 * (x2.y.E : Int) := hkq
    omega
  have hsn : ∀ e ∈ S, e.n ≤ 512 ∧ 1 ≤ e.n := fun e he => by
    obtain ⟨q, hq⟩ := List.mem_iff_getElem?.1 he
    have h5 := spOk hla5 hd HSP.out.eq hq
    have := h5.fit
    have := h5.n0
    omega
  have HND : Hid (∀ w', Fr [] w3 w' → Calls Tryz.prog 98 #[.pointer (some ⟨b.dp, 0, none⟩), .slice AD N CAP] w' fun e w'' => e = .returned (.int .i64 (keptOf H + 35 + sumN S)) ∧ Fr [] w' w'') := hidI (fun w' f => by
    have hd' := (B3.out.quiet f).dl
    have e1 : b.t.kept = keptOf H := TX2.out.kept
    have h6 := needs_any hd' (by rw [e1]; exact keptOf_nonneg H) (by rw [e1]; omega) (w0 := w2) (la := la) (lb := data) (pg := (page : Int)) (AD := AD) (N := N) (CAP := CAP) (S := S) ⟨HSP.out.eq, HSP.out.len, HSP.out.few, HSP.out.cap, HSP.out.row.imp id (fun ⟨g', h7, h8, h9⟩ => ⟨g', h7, h8, h9.kept f (by simp)⟩), fun e he => ⟨f.same (by simp) (HSP.out.blk e he).1, f.same (by simp) (HSP.out.blk e he).2⟩, HSP.out.new⟩ (fun e he => (hsn e he).1)
    rw [e1] at h6
    exact h6)
  have HRO : Hid (∀ w', Fr [] w3 w' → Calls Tryz.prog 89 #[.pointer (some ⟨x2.y.p, 0, none⟩)] w' fun e w'' => e = .returned (.int .i64 ({ b with x := x2 } : Bk).room) ∧ Fr [] w' w'') := hidI (fun w' f => broom_any (B3.out.quiet f))
  obtain ⟨RM, HRM⟩ : ∃ RM : Int, Hid (({ b with x := x2 } : Bk).room = RM) := ⟨_, rfl⟩
  rw [HRM.out] at HRO
  obtain ⟨ND, HNDE⟩ : ∃ ND : Int, Hid (keptOf H + 35 + sumN S = ND) := ⟨_, rfl⟩
  rw [HNDE.out] at HND
  have gg : Fr [] w3 w3.drew := (Fr.refl [] w3).drew
  clear c1 c3
  dsimp only
  go_wp2_with fail
  go_region_held3 (fun w' => w'.cell? ⟨b.bp, 3, none⟩ = some (.pointer (some ⟨b.dp, 0, none⟩)) ∧ w'.cell? ⟨b.bp, 1, none⟩ = some (.pointer (some ⟨x2.y.p, 0, none⟩))) (exact SK.out _ gg) ((first
    | (go_at_call 98; refine (HND.out _ gg).mono ?_; rintro e w4 ⟨rfl, f4⟩; replace gg := gg.trans f4)
    | (go_at_call 89; refine (HRO.out _ gg).mono ?_; rintro e w4 ⟨rfl, f4⟩; replace gg := gg.trans f4)))
  all_goals
    have BS3 := ((BStep.quiet HH.out fa).trans HR2.out.st).trans (BStep.quiet HR2.out.st.at' (f3.trans gg))
    have TR3 : Tr b { b with x := x2 } := Tr.pool (t' := b.t) HR2.out.kin HR2.out.al.2.1 HR2.out.al.1 HR2.out.al.2.2.1
    have hrm : ({ b with x := x2 } : Bk).room = b.room := by
      unfold Bk.room
      show 408 * (x2.y.count - 1) - ((x2.y.E : Int) - (x2.y.A : Int)) = _
      rw [HR2.out.kin.count, HR2.out.kin.E, HR2.out.kin.A]
    by_cases hfull : RM < ND
    · go_wp2_with fail
      go_ret
      refine ⟨5, rfl, S, by rw [hla]; exact HSP.out.eq, Or.inl ⟨rfl, ?_, _, BS3, TR3, TX2.out, rfl, HR2.out.kin.E⟩⟩
      rw [HNDE.out, ← hrm, HRM.out]
      exact hfull
    · go_wp2_with fail
      have hlE : b.x.y.E + logN S ≤ 400000 := by
        have h4 := logN_bound HSP.out.eq
        omega
      refine (write_any BS3.at' (H := H) (V := V) (pg := page) (HSP.out.kept gg) hla5 hd (by show page < x2.pages; rw [HR2.out.al.2.1]; exact hp) (by omega) (fun k hk => HR2.out.st.at'.lt k (by rcases List.mem_cons.1 hk with e | e <;> simp [e])) (winv_zero BS3.at' TX2.out hla S) TX2.out.num TX2.out.t0 TX2.out.t1 ?_ ?_ TX2.out.c0 ?_ (by omega)).mono ?_
      · have h9 : keptOf H + 35 + sumN S ≤ ({ b with x := x2 } : Bk).room := by rw [HNDE.out, HRM.out]; omega
        exact h9
      · show x2.y.E + logN S ≤ 400000
        rw [HR2.out.kin.E]
        exact hlE
      · have h9 := TX2.out.c1
        have h8 : b.t.chg ≤ (x2.y.E : Int) := h9
        show b.t.chg ≤ 900000
        omega
      · rintro e w9 ⟨rfl, b', H', h9⟩
        go_wp2_with fail
        go_ret
        have hlen := HSP.out.len
        rw [← hlen] at h9
        have P9 := winv_end TX2.out hla5 hd HSP.out.eq (fun e he => (hsn e he).2) (by rw [HNDE.out, HRM.out]; omega) h9
        exact ⟨0, rfl, S, by rw [hla]; exact HSP.out.eq, Or.inr ⟨rfl, by rw [HNDE.out, ← hrm, HRM.out]; omega, b', H', BS3.trans P9.st, TR3.trans P9.tr, P9.tx, P9.un, P9.chg, by rw [P9.E]; show x2.y.E + _ = _; rw [HR2.out.kin.E], P9.num⟩⟩
end Go.Proofs.YtopaeomjndblkaaGreat

