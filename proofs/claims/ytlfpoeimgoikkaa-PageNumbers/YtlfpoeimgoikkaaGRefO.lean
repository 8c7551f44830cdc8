/-
  The document's page taken apart: Of.
-/
import Derived.Test.YtlfpoeimgoikkaaGRefP
import Derived.RegionTactic
import Derived.ChangeAlike
import Derived.Great.Ranges
import Derived.Deep.Cut
namespace Go.Proofs.Ytlfpoeimgoikkaa
open Go.RowKit Go.Maps

/-- A page in a box. -/
def PBox (w : World) (b : Nat) (K X : Int) (v : Value) : Prop := w.heap[b]? = some (.cells #[.int .u8 K, .int .i64 X, v] 75)
theorem PBox.kept {w w' : World} {b : Nat} {K X : Int} {v : Value} {L : List Nat} (h : PBox w b K X v) (f : Fr L w w') (hb : b ∉ L) : PBox w' b K X v := f.same hb h
theorem PBox.lt {w : World} {b : Nat} {K X : Int} {v : Value} (h : PBox w b K X v) : b < w.heap.size := (Array.getElem?_eq_some_iff.1 h).1
theorem PBox.c0 {w : World} {b : Nat} {K X : Int} {v : Value} (h : PBox w b K X v) : w.cell? ⟨b, 0, none⟩ = some (.int .u8 K) := cell_of_row w b 0 _ _ _ h
theorem PBox.c1 {w : World} {b : Nat} {K X : Int} {v : Value} (h : PBox w b K X v) : w.cell? ⟨b, 1, none⟩ = some (.int .i64 X) := cell_of_row w b 1 _ _ _ h
theorem PBox.c2 {w : World} {b : Nat} {K X : Int} {v : Value} (h : PBox w b K X v) : w.cell? ⟨b, 2, none⟩ = some v := cell_of_row w b 2 _ _ _ h
theorem PBox.fz {w : World} {b : Nat} {K X : Int} {v : Value} (h : PBox w b K X v) (j : Nat) : w.frozen? ⟨b, j, none⟩ = false := frozen_of_row w b j _ _ h
theorem sizeP : (Try.prog.info? 75).map (·.size) = some 3 := by kernel_rfl
theorem resP2 {fn : Func} {p q : Tmp} (h : fn.results = #[.cell p 75, .tmp q]) (tmps : Array Value) (w : World) (b : Nat) (K X : Int) (v : Value) (hp : tmps.getD p undef = .pointer (some ⟨b, 0, none⟩)) (hg : PBox w b K X v) :
    (results fn tmps).run Try.prog w = .ok (.tuple #[.agg #[.int .u8 K, .int .i64 X, v], tmps.getD q undef]) w := by
  rw [results_cell_tmp h, hp]
  simp [asAddr, run_loadVar_row w b 75 75 #[.int .u8 K, .int .i64 X, v] (0, 0) _ hg Try.underlying75 rfl (by rw [sizeP]; rfl), Result.andThen]

theorem rowb_ne {w : World} {b c g : Nat} {l : List UInt8} {cur : Array Value} {T : TypeId} (h : RowB w b c l) (hg : w.heap[g]? = some (.cells cur T)) (hT : T ≠ 5) : b ≠ g := by
  rintro rfl
  obtain ⟨tl, h1, _⟩ := h
  rw [h1] at hg
  cases hg
  exact hT rfl

section
variable {ops : Array Oper} {rest : List Oper} {o : Oper} {a : Act} {w : World} {Q : Exit → Act → World → Prop}
/-- append to a row of bytes without any, that is new since w0. -/
theorem run_appE (ty : TypeId) (w0 : World) (b0 : Nat) (hb0 : w.heap[b0]? = some (.cells #[] 5)) (hw0 : w0.heap.size ≤ b0) (f0 : Fr [] w0 w) (ad : Option Addr) (m c : Nat) (l : List UInt8) (hl : l.length = m) (hsrc : BytesAt w ad l) (hm : m ≤ 1000000) (hne : ad ≠ none) :
    ∃ b' c' w', (Builtin.append_ #[22, 22] ty #[.slice (some ⟨b0, 0, none⟩) 0 0, .slice ad m c]).run Try.prog w = .ok (.slice (some ⟨b', 0, none⟩) m c') w' ∧ RowB w' b' c' l ∧ w0.heap.size ≤ b' ∧ Fr [] w0 w' := by
  obtain ⟨i, hi, hz, hs, hb⟩ := info5'
  have hlen : (arr l).toList.length = m * 1 := by simp [arr, hl]
  obtain ⟨a0, rfl⟩ : ∃ a0, ad = some a0 := by cases ad with
    | none => exact absurd rfl hne
    | some x => exact ⟨x, rfl⟩
  have hown : w.ownsRow w0.heap.size 5 1 (.slice (some ⟨b0, 0, none⟩) 0 0) 0 [] := ⟨rfl, Or.inr ⟨b0, 0, #[], rfl, hw0, hb0, Nat.le_refl _, by unfold maxLen; omega, rfl, rfl⟩⟩
  obtain ⟨v', w', hrun, h2, h3, h4, _⟩ := run_append_own_at (P := Try.prog) w w0.heap.size 22 ty 5 i (.int .u8 0) 1 1 Try.underlying22 hi hz hs hb rfl (by omega) _ 0 [] hown a0 m c (arr l).toList hlen
    (by
      intro j u hu
      obtain ⟨b, off, e, hc⟩ := hsrc j u hu
      cases e
      rw [Addr.add_mid]
      exact hc) (arr_one l) (by unfold maxLen; omega) (by omega) f0.size
  have hfr : Fr [] w0 w' := f0.grown h3 (fun j e hj => by
    have := (hown.lt j e).1
    omega)
  rcases h2.2 with ⟨e, _⟩ | ⟨g, cap, cur, rfl, hbg, hg, hnc, _, hcs, ht⟩
  · exfalso
    have := h4.1 e
    cases this.1
  · rw [Nat.zero_add] at hrun
    refine ⟨g, cap, w', hrun, ⟨cur.toList.drop m, ?_, ?_⟩, hbg, hfr⟩
    · rw [hg]
      refine congrArg (fun z => some (Obj.cells z 5)) (Array.ext' ?_)
      have h9 : cur.toList.take m = (arr l).toList := by simpa using ht
      rw [← h9]
      simp
    · have e1 : cur.toList.length = cur.size := rfl
      rw [List.length_drop, hl]
      omega

/-- append of one list to a row of lists; what else is there stays. -/
theorem run_appV1 (ty : TypeId) (w0 : World) (ad0 : Option Addr) (n cap : Nat) (xs : List Value) (hown : OwnV 22 w0 w ad0 n cap xs) (b : Nat) (u : Value) (hb : w.heap[b]? = some (.cells #[u] 22)) (h1 : u.oneCell' = true) (hm : n + 1 ≤ 1000000) :
    ∃ g cap' w', (Builtin.append_ #[30, 30] ty #[.slice ad0 n cap, .slice (some ⟨b, 0, none⟩) 1 1]).run Try.prog w = .ok (.slice (some ⟨g, 0, none⟩) (n + 1) cap') w' ∧ OwnV 22 w0 w' (some ⟨g, 0, none⟩) (n + 1) cap' (xs ++ [u]) ∧ Fr (Value.ownBlock (.slice ad0 n cap)).toList w w' := by
  obtain ⟨i, hi, hz, hs, hbb⟩ := infoS'
  obtain ⟨v', w', hrun, h2, h3, h4, _⟩ := run_append_own_at (P := Try.prog) w w0.heap.size 30 ty 22 i (.slice none 0 0) 1 24 Try.underlying30 hi hz hs hbb rfl (by omega) _ n xs hown.own ⟨b, 0, none⟩ 1 1 [u] (by simp)
      (by
        intro j x hx
        cases j with
        | zero =>
          simp at hx
          subst hx
          rw [Addr.add_mid]
          exact cell_of_row w b 0 _ _ _ hb
        | succ j => simp at hx) (by intro x hx; simp at hx; subst hx; exact h1) (by unfold maxLen; omega) (by omega) hown.fr.size
  have hfr := hown.fr.grown h3 (fun j e hj => by
    have := (hown.own.lt j e).1
    omega)
  rcases h2.2 with ⟨e, hn0⟩ | ⟨g, c', cur, e, r⟩
  · omega
  · subst e
    exact ⟨g, c', w', hrun, ⟨h2, hfr⟩, (Fr.refl _ _).grown h3 (fun j e _ => by simp [e])⟩

theorem step_appE {K : Act → World → Prop} {X : Prop} (hgd : o.guard = none) (s x : Operand) (ho : o.op = .call { callee := .builtin .append, args := #[s, x], argTypes := #[22, 22] }) (w0 : World) (b0 : Nat) (ad : Option Addr) (m c : Nat) (l : List UInt8) (hs : a.eval s = .slice (some ⟨b0, 0, none⟩) 0 0) (hx : a.eval x = .slice ad m c)
    (hb0 : w.heap[b0]? = some (.cells #[] 5)) (hw0 : w0.heap.size ≤ b0) (f0 : Fr [] w0 w) (hl : l.length = m) (hsrc : BytesAt w ad l) (hm : m ≤ 1000000) (hne : ad ≠ none)
    (h : ∀ b' c' w', RowB w' b' c' l → w0.heap.size ≤ b' → Fr [] w0 w' → K (a.put o.dst (.slice (some ⟨b', 0, none⟩) m c')) w') :
    if Region.wanted o (yielded ops a.tmps) = true then Oper.wp Try.prog o a w K Q else X := by
  have hw : Region.wanted o (yielded ops a.tmps) = true := by simp [Region.wanted, hgd]
  rw [if_pos hw]
  obtain ⟨b', c', w', hrun, h1, h2, h3⟩ := run_appE o.type w0 b0 hb0 hw0 f0 ad m c l hl hsrc hm hne
  unfold Oper.wp
  simp [execOp, ho, resolve, invoke, builtin, hs, hx, hrun, Result.andThen]
  exact h _ _ _ h1 h2 h3
theorem step_appV1 {K : Act → World → Prop} {X : Prop} (hgd : o.guard = none) (s x : Operand) (ho : o.op = .call { callee := .builtin .append, args := #[s, x], argTypes := #[30, 30] }) (w0 : World) (ad0 : Option Addr) (n cap : Nat) (xs : List Value) (b : Nat) (u : Value) (hs : a.eval s = .slice ad0 n cap) (hx : a.eval x = .slice (some ⟨b, 0, none⟩) 1 1)
    (hown : OwnV 22 w0 w ad0 n cap xs) (hb : w.heap[b]? = some (.cells #[u] 22)) (h1 : u.oneCell' = true) (hm : n + 1 ≤ 1000000)
    (h : ∀ g cap' w', OwnV 22 w0 w' (some ⟨g, 0, none⟩) (n + 1) cap' (xs ++ [u]) → Fr (Value.ownBlock (.slice ad0 n cap)).toList w w' → K (a.put o.dst (.slice (some ⟨g, 0, none⟩) (n + 1) cap')) w') :
    if Region.wanted o (yielded ops a.tmps) = true then Oper.wp Try.prog o a w K Q else X := by
  have hw : Region.wanted o (yielded ops a.tmps) = true := by simp [Region.wanted, hgd]
  rw [if_pos hw]
  obtain ⟨g, c', w', hrun, h2, h3⟩ := run_appV1 o.type w0 ad0 n cap xs hown b u hb h1 hm
  unfold Oper.wp
  simp [execOp, ho, resolve, invoke, builtin, hs, hx, hrun, Result.andThen]
  exact h _ _ _ h2 h3
end

section
variable {ops : Array Oper} {rest : List Oper} {o : Oper} {a : Act} {w : World} {Q : Exit → Act → World → Prop}
theorem wp_storeP (hgd : o.guard = none) (x y : Operand) (ho : o.op = .store 75 x y) (b : Nat) (K X K' X' : Int) (v v' : Value) (hx : a.eval x = .pointer (some ⟨b, 0, none⟩)) (hy : a.eval y = .agg #[.int .u8 K', .int .i64 X', v']) (hg : PBox w b K X v) (h1 : v'.oneCell' = true)
    (h : ∀ w', PBox w' b K' X' v' → Fr [b] w w' → wpList Try.prog ops Q rest (a.put o.dst undef) w') : wpList Try.prog ops Q (o :: rest) a w :=
  wpList_store_row hgd 75 x y ho b #[.int .u8 K', .int .i64 X', v'] hx hy 75 #[.int .u8 K, .int .i64 X, v] hg sizeP rfl (by simp [h1]; exact ⟨rfl, rfl⟩)
    (h _ (setRow_heap w b _ _ _ _ hg) ⟨rfl, rfl, rfl, by simp, fun i _ hn => setRow_other w b i _ (fun e => hn (by simp [e]))⟩)
end

/-- A cell of the document's page, in memory of its own. -/
structure RB where
  b : Nat
  c : Nat
  l : List UInt8
def RB.val (e : RB) : Value := .slice (some ⟨e.b, 0, none⟩) e.l.length e.c
def RB.cell (e : RB) : RCell := ⟨some ⟨e.b, 0, none⟩, e.l.length, e.c, e.l⟩
structure OfInv (w wr : World) (rb xb : Nat) (K X : Int) (AD : Option Addr) (N CAP : Nat) (B : List RB) : Prop where
  rbox : PBox wr rb 0 0 (.slice none 0 0)
  xbox : PBox wr xb K X (.slice AD N CAP)
  own : OwnV 22 w wr AD N CAP (B.map RB.val)
  rows : ∀ e ∈ B, RowB wr e.b e.c e.l
  rx : rb ≠ xb
  rw : w.heap.size ≤ rb
  xw : w.heap.size ≤ xb
theorem OfInv.len {w wr : World} {rb xb : Nat} {K X : Int} {AD : Option Addr} {N CAP : Nat} {B : List RB} (h : OfInv w wr rb xb K X AD N CAP B) : B.length = N := by
  have := h.own.len
  simpa using this
theorem OfInv.kept {w wr wt : World} {rb xb : Nat} {K X : Int} {AD : Option Addr} {N CAP : Nat} {B : List RB} (h : OfInv w wr rb xb K X AD N CAP B) (f : Fr [] wr wt) : OfInv w wt rb xb K X AD N CAP B :=
  ⟨h.rbox.kept f (by simp), h.xbox.kept f (by simp), h.own.kept f, fun e he => (h.rows e he).kept f (by simp), h.rx, h.rw, h.xw⟩
theorem ownBlock_cells {e : TypeId} {w0 w : World} {ad : Option Addr} {n cap : Nat} {xs : List Value} (h : OwnV e w0 w ad n cap xs) {g : Nat} (hg : g ∈ (Value.ownBlock (.slice ad n cap)).toList) : ∃ cur, w.heap[g]? = some (.cells cur e) := by
  rcases h.own.2 with ⟨hv, _⟩ | ⟨g', c, cur, hv, _, hh, _⟩
  · rw [hv] at hg; simp [Value.ownBlock] at hg
  · rw [hv] at hg
    have : g' = g := by simpa [Value.ownBlock, eq_comm] using hg
    subst this
    exact ⟨cur, hh⟩
theorem pbox_ne {w : World} {b g : Nat} {K X : Int} {v : Value} {cur : Array Value} (h : PBox w b K X v) (hg : w.heap[g]? = some (.cells cur 22)) : b ≠ g := by
  rintro rfl
  have h1 : w.heap[b]? = some (.cells #[.int .u8 K, .int .i64 X, v] 75) := h
  rw [h1] at hg
  cases hg
theorem of_step {w wr w4 w6 : World} {rb xb : Nat} {K X : Int} {AD : Option Addr} {N CAP : Nat} {B : List RB} (h : OfInv w wr rb xb K X AD N CAP B) {b' c' g6 cap6 : Nat} {l' : List UInt8} (f4 : Fr [] wr w4) (r4 : RowB w4 b' c' l') (o : Obj)
    (o6 : OwnV 22 w w6 (some ⟨g6, 0, none⟩) (N + 1) cap6 (B.map RB.val ++ [.slice (some ⟨b', 0, none⟩) l'.length c'])) (f6 : Fr (Value.ownBlock (.slice AD N CAP)).toList (w4.alloc o) w6) :
    OfInv w (w6.setCell ⟨xb, 2, none⟩ (.slice (some ⟨g6, 0, none⟩) (N + 1) cap6)) rb xb K X (some ⟨g6, 0, none⟩) (N + 1) cap6 (B ++ [⟨b', c', l'⟩]) := by
  have f5 : Fr [] wr (w4.alloc o) := f4.alloc o
  have h5 := h.kept f5
  have hne : ∀ g, g ∈ (Value.ownBlock (.slice AD N CAP)).toList → ∃ cur, (w4.alloc o).heap[g]? = some (.cells cur 22) := fun g hg => ownBlock_cells h5.own hg
  have rb6 : PBox w6 rb 0 0 (.slice none 0 0) := h5.rbox.kept f6 (fun hm => by obtain ⟨cur, hc⟩ := hne _ hm; exact pbox_ne h5.rbox hc rfl)
  have xb6 : PBox w6 xb K X (.slice AD N CAP) := h5.xbox.kept f6 (fun hm => by obtain ⟨cur, hc⟩ := hne _ hm; exact pbox_ne h5.xbox hc rfl)
  have rows6 : ∀ e ∈ B ++ [⟨b', c', l'⟩], RowB w6 e.b e.c e.l := by
    intro e he
    have : RowB (w4.alloc o) e.b e.c e.l := by
      rcases List.mem_append.1 he with he | he
      · exact h5.rows e he
      · simp at he
        subst he
        exact r4.kept ((Fr.refl [] _).alloc o) (by simp)
    exact this.kept f6 (fun hm => by obtain ⟨cur, hc⟩ := hne _ hm; exact rowb_ne this hc (by decide) rfl)
  have f7 : Fr [xb] w6 (w6.setCell ⟨xb, 2, none⟩ (.slice (some ⟨g6, 0, none⟩) (N + 1) cap6)) := (Fr.refl _ _).setCell _ _ (by simp)
  have f07 : Fr [] w (w6.setCell ⟨xb, 2, none⟩ (.slice (some ⟨g6, 0, none⟩) (N + 1) cap6)) := o6.fr.setCell _ _ (fun hh => absurd hh (by have := h.xw; simp; omega))
  refine ⟨rb6.kept f7 (by simpa using h.rx), ?_, ?_, ?_, h.rx, h.rw, h.xw⟩
  · have := heap_setCell_same w6 xb 2 _ _ (.slice (some ⟨g6, 0, none⟩) (N + 1) cap6) xb6
    exact this
  · have := o6.keptL f7 (fun g2 e hm => ?_) f07
    · simpa [RB.val] using this
    · cases e
      have hgx : g6 = xb := by simpa using hm
      subst hgx
      rcases o6.own.2 with ⟨hv, _⟩ | ⟨g', c, cur, hv, _, hh, _⟩
      · cases hv
      · cases hv
        exact pbox_ne xb6 hh rfl
  · intro e he
    exact (rows6 e he).kept f7 (fun hm => by
      have : e.b = xb := by simpa using hm
      exact rowb_ne (rows6 e he) xb6 (by decide) this)
theorem of_boxed {w wr w4 w6 : World} {rb xb : Nat} {K X : Int} {AD : Option Addr} {N CAP : Nat} {B : List RB} (h : OfInv w wr rb xb K X AD N CAP B) (f4 : Fr [] wr w4) (o : Obj) (f6 : Fr (Value.ownBlock (.slice AD N CAP)).toList (w4.alloc o) w6) :
    w6.cell? ⟨xb, 2, none⟩ = some (.slice AD N CAP) ∧ w6.frozen? ⟨xb, 2, none⟩ = false := by
  have h5 := h.kept (f4.alloc o)
  have xb6 : PBox w6 xb K X (.slice AD N CAP) := h5.xbox.kept f6 (fun hm => by obtain ⟨cur, hc⟩ := ownBlock_cells h5.own hm; exact pbox_ne h5.xbox hc rfl)
  exact ⟨xb6.c2, xb6.fz 2⟩
theorem OfInv.page {w wr : World} {rb xb : Nat} {K X : Int} {AD : Option Addr} {N CAP : Nat} {B : List RB} (h : OfInv w wr rb xb K X AD N CAP B) : RPage wr AD N CAP (B.map RB.cell) := by
  refine ⟨by simpa using h.len, ?_, ?_, ?_, ?_⟩
  · rcases h.own.shape with ⟨_, h1, _⟩ | ⟨g, _, h1, _⟩ <;> omega
  · have := h.own.vals
    have e : rvals (B.map RB.cell) = B.map RB.val := by simp [rvals, RB.cell, RB.val, RCell.val, Function.comp_def]
    rw [e]
    exact this
  · intro e he
    simp at he
    obtain ⟨x, hx, rfl⟩ := he
    exact ⟨rfl, (h.rows x hx).bytes, fun e => nomatch e⟩
  · intro e
    rcases h.own.shape with ⟨_, _, h1, _⟩ | ⟨g, h1, _⟩
    · exact h1
    · rw [h1] at e; cases e

theorem of_paged {w wr w9 : World} {rb xb : Nat} {K X : Int} {AD : Option Addr} {N CAP : Nat} {B : List RB} (h : OfInv w wr rb xb K X AD N CAP B) (f9 : Fr [rb] wr w9) : RPage w9 AD N CAP (B.map RB.cell) := by
  have hp := h.page
  refine ⟨hp.len, hp.cap, ?_, ?_, hp.nil⟩
  · refine hp.vals.kept f9 (fun b off e hm => ?_)
    have hb : b = rb := by simpa using hm
    subst hb
    rcases h.own.own.2 with ⟨hv, _⟩ | ⟨g', c, cur, hv, _, hh, _⟩
    · rw [e] at hv; cases hv
    · rw [e] at hv
      cases hv
      exact pbox_ne h.rbox hh rfl
  · intro e he
    simp at he
    obtain ⟨x, hx, rfl⟩ := he
    refine ⟨rfl, ((h.rows x hx).bytes).kept f9 (fun b off e hm => ?_), fun e => nomatch e⟩
    cases e
    have hb : x.b = rb := by simpa using hm
    exact rowb_ne (h.rows x hx) h.rbox (by decide) hb
theorem hidI {P : Prop} (h : P) : Hid P := h

/-- What Of answers. -/
def OfTo (w : World) (l : List UInt8) (r : Ending) (w' : World) : Prop :=
  (pageOf l = none ∧ r = .returned (.tuple #[.agg #[.int .u8 0, .int .i64 0, .slice none 0 0], .bool false]) ∧ Fr [] w w') ∨
  (∃ cs ad n cap E, pageOf l = some cs ∧ r = .returned (.tuple #[.agg #[.int .u8 (byteAt l 0).toNat, .int .i64 (num4 l 2), .slice ad n cap], .bool true]) ∧ RPage w' ad n cap E ∧ rcells E = cs ∧ Fr [] w w')

set_option maxHeartbeats 1000000 in
set_option maxRecDepth 100000 in
theorem of_len (w : World) (ad : Option Addr) (n c : Nat) (l : List UInt8) (hl : l.length = n) (hn : n ≠ 512) :
    Calls Try.prog 57 #[.slice ad n c] w fun r w' => OfTo w l r w' := by
  have hb : ((n : Int) != 512) = true := by simp; omega
  have hp : pageOf l = none := pageOf_len l (by rw [hl]; exact hn)
  go_enter Try.func57, Try.ntmps57
  go_wp2_with fail
  refine bodyPost_ret (resP2 Try.results57 _ _ w.heap.size 0 0 (.slice none 0 0) rfl ?_) rfl (Or.inl ⟨hp, rfl, (Fr.refl _ _).alloc _⟩)
  exact heap_alloc_new w _

set_option maxHeartbeats 4000000 in
set_option maxRecDepth 100000 in
theorem of_512 (w : World) (g o c : Nat) (l : List UInt8) (h : At512 w g o c l) :
    Calls Try.prog 57 #[.slice (some ⟨g, o, none⟩) 512 c] w fun r w' => OfTo w l r w' := by
  have hcap : (512 : Int) ≤ c := by have := h.cap; omega
  go_enter Try.func57, Try.ntmps57
  obtain ⟨x0, HX0⟩ : ∃ x : Nat, Hid ((byteAt l 0).toNat = x) := ⟨_, rfl⟩
  obtain ⟨Y, HY⟩ : ∃ Y : Nat, Hid (num4 l 2 = Y) := ⟨_, rfl⟩
  go_upto_region 3 with fail
  go_cut [4] from 12 (fun s4 wx => s4 = .pointer (some ⟨w.heap.size + 1, 0, none⟩) ∧ OfInv w wx w.heap.size (w.heap.size + 1) x0 Y none 0 0 [])
  case first => as_aux_lemma =>
    have q0 := h.cell 0 (by omega)
    have q2 := h.cell 2 (by omega)
    have q3 := h.cell 3 (by omega)
    have q4 := h.cell 4 (by omega)
    have q5 := h.cell 5 (by omega)
    obtain ⟨x2, HX2⟩ : ∃ x : Nat, Hid ((byteAt l 2).toNat = x) := ⟨_, rfl⟩
    obtain ⟨x3, HX3⟩ : ∃ x : Nat, Hid ((byteAt l 3).toNat = x) := ⟨_, rfl⟩
    obtain ⟨x4, HX4⟩ : ∃ x : Nat, Hid ((byteAt l 4).toNat = x) := ⟨_, rfl⟩
    obtain ⟨x5, HX5⟩ : ∃ x : Nat, Hid ((byteAt l 5).toNat = x) := ⟨_, rfl⟩
    rw [HX0.out] at q0
    rw [HX2.out] at q2
    rw [HX3.out] at q3
    rw [HX4.out] at q4
    rw [HX5.out] at q5
    have b2 : x2 < 256 := by rw [← HX2.out]; exact (byteAt l 2).toNat_lt
    have b3 : x3 < 256 := by rw [← HX3.out]; exact (byteAt l 3).toNat_lt
    have b4 : x4 < 256 := by rw [← HX4.out]; exact (byteAt l 4).toNat_lt
    have b5 : x5 < 256 := by rw [← HX5.out]; exact (byteAt l 5).toNat_lt
    have hgl : g < w.heap.size := block_lt_of_cell q0
    rw [Nat.add_zero] at q0
    go_region
    go_wp2_with fail
    go_meet
    case rel =>
      have eY : ((x2 : Int) * 16777216 + x3 * 65536 + x4 * 256 + x5) = (Y : Int) := by
        rw [← HY.out]
        unfold num4
        rw [HX2.out, HX3.out, HX4.out, HX5.out]
        omega
      rw [eY]
      clear eY q0 q2 q3 q4 q5
      have hsz : (w.alloc (.cells #[.int .u8 0, .int .i64 0, .slice none 0 0] 75)).heap.size = w.heap.size + 1 := by simp
      have rb0 : PBox (w.alloc (.cells #[.int .u8 0, .int .i64 0, .slice none 0 0] 75)) w.heap.size 0 0 (.slice none 0 0) := heap_alloc_new w _
      have fA := (Fr.refl [] w).alloc (.cells #[.int .u8 0, .int .i64 0, .slice none 0 0] 75)
      generalize w.alloc (.cells #[.int .u8 0, .int .i64 0, .slice none 0 0] 75) = wA at hsz rb0 fA ⊢
      have xb0 : PBox (wA.alloc (.cells #[.int .u8 (x0 : Int), .int .i64 (Y : Int), .slice none 0 0] 75)) wA.heap.size x0 Y (.slice none 0 0) := heap_alloc_new wA _
      have fB := (Fr.refl [] wA).alloc (.cells #[.int .u8 (x0 : Int), .int .i64 (Y : Int), .slice none 0 0] 75)
      rw [hsz] at xb0
      have hlt : w.heap.size < (wA.alloc (.cells #[.int .u8 (x0 : Int), .int .i64 (Y : Int), .slice none 0 0] 75)).heap.size := by simp; omega
      generalize wA.alloc (.cells #[.int .u8 (x0 : Int), .int .i64 (Y : Int), .slice none 0 0] 75) = wB at xb0 fB hlt ⊢
      exact ⟨rfl, (rb0.kept fB.drew (by simp)), xb0, OwnV.nil (fA.trans fB).drew, (fun e he => nomatch he), by omega, Nat.le_refl _, by omega⟩
  case rest =>
    obtain ⟨rfl, INV0⟩ := hcut
    have INV : Hid (OfInv w wc w.heap.size (w.heap.size + 1) x0 Y none 0 0 []) := INV0
    clear INV0
    have KP : Hid (∀ w', Fr [] w w' → At512 w' g o c l) := fun w' f => h.kept f (by simp)
    obtain ⟨rb, HRB⟩ : ∃ rb, Hid (w.heap.size = rb) := ⟨_, rfl⟩
    obtain ⟨xb, HXB⟩ : ∃ xb, Hid (w.heap.size + 1 = xb) := ⟨_, rfl⟩
    rw [HXB.out, HRB.out] at INV
    rw [HXB.out, HRB.out]
    have q1 := h.cell 1 (by omega)
    obtain ⟨CN, HCN⟩ : ∃ N : Nat, Hid ((byteAt l 1).toNat = N) := ⟨_, rfl⟩
    rw [HCN.out] at q1
    have hCN : CN < 256 := by rw [← HCN.out]; exact (byteAt l 1).toNat_lt
    have HP : Hid (pageOf l = cellsAt l CN 6) := by
      show pageOf l = _
      unfold pageOf
      rw [if_pos h.len, HCN.out]
    have hlen := h.len
    clear q1
    go_wp2_with fail
    go_loopw [5, 6] (fun en i wr => ∃ (j e AN CAP : Nat) (AD : Option Addr) (B : List RB), j ≤ CN ∧ 6 ≤ e ∧ e ≤ 512 ∧ i = .int .i64 j ∧ en = .int .i64 e ∧ cellsAt l CN 6 = (cellsAt l (CN - j) e).map (B.map RB.l ++ ·) ∧ AN ≤ j ∧ OfInv w wr rb xb x0 Y AD AN CAP B) (fun _ i _ => CN - (intOf i).toNat)
    case atStart => exact ⟨0, 6, 0, 0, none, [], by omega, by omega, by omega, rfl, rfl, by simp, by omega, INV.out⟩
    case round =>
      obtain ⟨j, e, AN, CAP, AD, B, hj, he6, he, rfl, rfl, hce, hAN, inv⟩ := hrel
      have HC : Hid (cellsAt l CN 6 = (cellsAt l (CN - j) e).map (B.map RB.l ++ ·)) := hce
      have IV : Hid (OfInv w wr rb xb x0 Y AD AN CAP B) := inv
      have AT : Hid (At512 wr g o c l) := KP.out _ inv.own.fr
      have q1 := AT.out.cell 1 (by omega)
      rw [HCN.out] at q1
      clear hce inv
      by_cases hlt : j < CN
      · have hlt' : (j : Int) < CN := by omega
        obtain ⟨k, hk⟩ : ∃ k, CN - j = k + 1 := ⟨CN - j - 1, by omega⟩
        by_cases h2 : 512 < e + 2
        · have h2' : (512 : Int) < e + 2 := by omega
          have HZ : Hid (pageOf l = none) := by
            show pageOf l = none
            rw [HP.out, HC.out, hk]
            unfold cellsAt
            rw [if_pos (by rw [hlen]; exact h2)]
            rfl
          clear hk
          go_wp2_with (refine wp_storeP rfl _ _ rfl rb 0 0 0 0 _ (.slice none 0 0) rfl rfl IV.out.rbox rfl ?_; intro w9 p9 f9)
          refine bodyPost_ret (resP2 Try.results57 _ _ rb 0 0 (.slice none 0 0) rfl p9) rfl (Or.inl ⟨HZ.out, rfl, IV.out.own.fr.then f9 (fun i hi hm => by have := IV.out.rw; simp at hm; omega)⟩)
        · have h2' : ¬ (512 : Int) < e + 2 := by omega
          have q6 := AT.out.cell e (by omega)
          have q7 := AT.out.cell (e + 1) (by omega)
          obtain ⟨y0, HY0⟩ : ∃ x : Nat, Hid ((byteAt l e).toNat = x) := ⟨_, rfl⟩
          obtain ⟨y1, HY1⟩ : ∃ x : Nat, Hid ((byteAt l (e + 1)).toNat = x) := ⟨_, rfl⟩
          rw [HY0.out] at q6
          rw [HY1.out] at q7
          have b0 : y0 < 256 := by rw [← HY0.out]; exact (byteAt l e).toNat_lt
          have b1 : y1 < 256 := by rw [← HY1.out]; exact (byteAt l (e + 1)).toNat_lt
          obtain ⟨m, HM⟩ : ∃ m : Nat, Hid (num2 l e = m) := ⟨_, rfl⟩
          have em : (y0 : Int) * 256 + y1 = (m : Int) := by
            rw [← HM.out]
            unfold num2
            rw [HY0.out, HY1.out]
            omega
          have hm6 : m < 65536 := by rw [← HM.out]; exact num2_lt l e
          have hel : (e : Int) < 512 := by omega
          have hel1 : (e : Int) + 1 < 512 := by omega
          go_wp2_with fail
          go_region
          by_cases h3 : 512 < beh l e
          · have h3' : (512 : Int) < e + 2 + m := by unfold beh at h3; rw [HM.out] at h3; omega
            have HZ : Hid (pageOf l = none) := by
              show pageOf l = none
              rw [HP.out, HC.out, hk]
              unfold cellsAt
              rw [if_neg (by rw [hlen]; exact h2), if_pos (by rw [hlen]; exact h3)]
              rfl
            clear hk h3
            go_wp2_with (refine wp_storeP rfl _ _ rfl rb 0 0 0 0 _ (.slice none 0 0) rfl rfl (IV.out.kept ((Fr.refl [] wr).drew)).rbox rfl ?_; intro w9 p9 f9)
            refine bodyPost_ret (resP2 Try.results57 _ _ rb 0 0 (.slice none 0 0) rfl p9) rfl (Or.inl ⟨HZ.out, rfl, IV.out.own.fr.drew.then f9 (fun i hi hm => by have := IV.out.rw; simp at hm; omega)⟩)
          · have h3' : ¬ (512 : Int) < e + 2 + m := by unfold beh at h3; rw [HM.out] at h3; omega
            go_wp2_with fail
            have IVd : Hid (OfInv w wr.drew rb xb x0 Y AD AN CAP B) := IV.out.kept (Fr.refl [] wr).drew
            generalize wr.drew = wd at IVd ⊢
            have hle3 : e + 2 + m ≤ 512 := by unfold beh at h3; rw [HM.out] at h3; omega
            obtain ⟨E2, HE2⟩ : ∃ x : Nat, Hid (e + 2 = x) := ⟨_, rfl⟩
            obtain ⟨E3, HE3⟩ : ∃ x : Nat, Hid (e + 2 + m = x) := ⟨_, rfl⟩
            have kw1 : IntKind.i64.wrap ((e : Int) + 2) = (E2 : Int) := by
              have := HE2.out
              unfold IntKind.wrap
              simp [IntKind.signed, IntKind.bits]
              omega
            have kw2 : IntKind.i64.wrap ((E2 : Int) + m) = (E3 : Int) := by
              have := HE2.out
              have := HE3.out
              unfold IntKind.wrap
              simp [IntKind.signed, IntKind.bits]
              omega
            have hcapn := h.cap
            have k3 : (E2 : Int) ≤ E3 := by have := HE2.out; have := HE3.out; omega
            have k4 : (E3 : Int) ≤ c := by have := HE3.out; omega
            have k5 : (E2 : Int) ≤ c := by omega
            have k6 : E3 - E2 = m := by have := HE2.out; have := HE3.out; omega
            have x2 := IVd.out.xbox.c2
            have hxl := IVd.out.xbox.lt
            have HL : Hid (((l.drop E2).take m).length = m) := by
              show _ = m
              rw [List.length_take, List.length_drop, hlen]
              have := HE2.out
              omega
            obtain ⟨sp, hsp, SRC⟩ : ∃ sp : Option Addr, (if c = E2 then some (⟨g, o, none⟩ : Addr) else some ⟨g, o + E2, none⟩) = sp ∧ Hid ((∀ w', Fr [] w w' → BytesAt w' sp ((l.drop E2).take m)) ∧ sp ≠ none) := by
              refine ⟨_, rfl, fun w' f => ?_, by split <;> simp⟩
              refine BytesAt.ifAd ((KP.out w' f).bytes.sub E2 m) (fun e => List.eq_nil_of_length_eq_zero ?_)
              rw [HL.out]
              have := HE2.out
              omega
            have HLE : Hid (e + 2 + m ≤ 512) := hle3
            clear h3 h3' q6 q7 q1 hle3
            have hAN2 : AN ≤ 255 := by omega
            go_region_law (first
              | (refine step_appE rfl (.tmp 71) (.tmp 79) rfl wd wd.heap.size sp m (c - E2) ((l.drop E2).take m) rfl rfl (heap_alloc_new _ _) (Nat.le_refl _) ((Fr.refl [] wd).drew.alloc _) HL.out (SRC.out.1 _ ((IVd.out.own.fr.drew).alloc _)) (by omega) SRC.out.2 ?_; intro b4 c4 w4 r4 hb4 f4; have x4 := (IVd.out.kept f4).xbox.c2; have hx4 := (IVd.out.kept f4).xbox.lt)
              | (refine step_appV1 rfl (.tmp 70) (.tmp 81) rfl w AD AN CAP (B.map RB.val) w4.heap.size (.slice (some ⟨b4, 0, none⟩) m c4) rfl rfl ((IVd.out.kept (f4.alloc _)).own) (heap_alloc_new _ _) rfl (by omega) ?_; intro g6 cap6 w6 o6 f6; have iv6 := of_step IVd.out f4 r4 _ (by rw [HL.out]; exact o6) f6; obtain ⟨x6, z6⟩ := of_boxed IVd.out f4 _ f6))
            all_goals
              clear x4 hx4 x6 z6 o6 f6 r4 f4 hb4 x2 kw1 kw2 hsp
              have IV6 := hidI iv6
              clear iv6
              have e5 : (e : Int) + 2 + m = (E3 : Int) := by have := HE3.out; omega
              go_wp2_with fail
              refine ⟨⟨j + 1, E3, AN + 1, cap6, some ⟨g6, 0, none⟩, B ++ [⟨b4, c4, (l.drop E2).take m⟩], by omega, by have := HE3.out; omega, by have := HE3.out; have := HLE.out; omega, by go_num, rfl, ?_, by omega, IV6.out⟩, by simp [intOf]; omega⟩
              rw [HC.out, hk, show CN - (j + 1) = k by omega]
              conv => lhs; unfold cellsAt
              have eb : beh l e = E3 := by unfold beh; rw [HM.out]; exact HE3.out
              rw [if_neg (by rw [hlen]; exact h2), eb, if_neg (by rw [hlen]; have := HE3.out; have := HLE.out; omega), Option.map_map, HM.out, HE2.out]
              congr 1
              funext x
              simp
      · obtain rfl : j = CN := by omega
        have HC2 : Hid (pageOf l = (cellsAt l 0 e).map (B.map RB.l ++ ·)) := by
          show pageOf l = _
          rw [HP.out, HC.out, Nat.sub_self]
        have hdl : (l.drop e).length = 512 - e := by rw [List.length_drop, hlen]
        go_wp2_with fail
        go_loopw [5] (fun i wr2 => ∃ t : Nat, t ≤ 512 - e ∧ i = .int .i64 ((e + t : Nat) : Int) ∧ (((l.drop e).take t).all (· == 0)) = true ∧ wr2 = wr) (fun i _ => 512 - (intOf i).toNat)
        case atStart => exact ⟨0, by omega, rfl, by simp, rfl⟩
        case round =>
          obtain ⟨t, ht, rfl, hz, rfl⟩ := hrel
          have HZ : Hid ((((l.drop e).take t).all (· == 0)) = true) := hz
          clear hz
          obtain ⟨u, HU⟩ : ∃ u : Nat, Hid (e + t = u) := ⟨_, rfl⟩
          rw [HU.out]
          by_cases hkl : t < 512 - e
          · have hkl' : (u : Int) < 512 := by have := HU.out; omega
            have q2 := AT.out.cell u (by have := HU.out; omega)
            have hb : byteAt l u = (l.drop e)[t]'(by rw [hdl]; exact hkl) := by
              rw [← HU.out, byteAt_lt (by rw [hlen]; omega)]; simp
            by_cases hb0 : byteAt l u = 0
            · have hx : ((byteAt l u).toNat : Int) = 0 := by rw [hb0]; rfl
              rw [hx] at q2
              have HB : Hid ((l.drop e)[t]'(by rw [hdl]; exact hkl) = 0) := hb.symm.trans hb0
              clear hb hb0 hx
              go_wp2_with fail
              refine ⟨⟨t + 1, by omega, by rw [← HU.out]; go_num, ?_, trivial⟩, by simp [intOf]; omega⟩
              rw [List.take_succ_eq_append_getElem (by rw [hdl]; exact hkl), List.all_append, HZ.out, HB.out]
              rfl
            · have hx : (((byteAt l u).toNat : Int) != 0) = true := by
                simp only [bne_iff_ne, ne_eq]
                intro h0
                exact hb0 (UInt8.toNat_inj.1 (by simpa using h0))
              have HN0 : Hid (pageOf l = none) := by
                show pageOf l = none
                rw [HC2.out]
                unfold cellsAt
                rw [if_neg]
                · rfl
                · intro ha
                  rw [List.all_eq_true] at ha
                  have := ha ((l.drop e)[t]'(by rw [hdl]; exact hkl)) (List.getElem_mem _)
                  rw [← hb] at this
                  exact hb0 (by simpa using this)
              clear hb hb0
              obtain ⟨x, HX⟩ : ∃ x : Int, Hid (((byteAt l u).toNat : Int) = x) := ⟨_, rfl⟩
              rw [HX.out] at q2 hx
              go_wp2_with (refine wp_storeP rfl _ _ rfl rb 0 0 0 0 _ (.slice none 0 0) rfl rfl IV.out.rbox rfl ?_; intro w9 p9 f9)
              refine bodyPost_ret (resP2 Try.results57 _ _ rb 0 0 (.slice none 0 0) rfl p9) rfl (Or.inl ⟨HN0.out, rfl, IV.out.own.fr.then f9 (fun i hi hm => by have := IV.out.rw; simp at hm; omega)⟩)
          · have hu : ¬ (u : Int) < 512 := by have := HU.out; omega
            have HS : Hid (pageOf l = some (B.map RB.l)) := by
              show pageOf l = some _
              have hz := HZ.out
              rw [List.take_of_length_le (by rw [hdl]; omega)] at hz
              rw [HC2.out]
              unfold cellsAt
              rw [if_pos hz]
              simp
            have x0' := IV.out.xbox.c0
            have x1' := IV.out.xbox.c1
            have x2' := IV.out.xbox.c2
            go_wp2_with (refine wp_storeP rfl _ _ rfl rb 0 0 x0 Y _ (.slice AD AN CAP) rfl rfl IV.out.rbox rfl ?_; intro w9 p9 f9)
            refine bodyPost_ret (resP2 Try.results57 _ _ rb x0 Y (.slice AD AN CAP) rfl p9) rfl (Or.inr ⟨_, AD, AN, CAP, B.map RB.cell, HS.out, by rw [HX0.out, HY.out]; rfl, ?_, ?_, IV.out.own.fr.then f9 (fun i hi hm => by have := IV.out.rw; simp at hm; omega)⟩)
            · exact of_paged IV.out f9
            · simp [rcells, RB.cell, Function.comp_def]
end Go.Proofs.Ytlfpoeimgoikkaa
