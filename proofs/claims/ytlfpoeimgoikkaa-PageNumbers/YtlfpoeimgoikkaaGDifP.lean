/-
  The program's Diff: a span is put.
-/
import Derived.Test.YtlfpoeimgoikkaaGDif
namespace Go.Proofs.Ytlfpoeimgoikkaa
open Go.RowKit Go.Maps

theorem d_boxed {w wr w5 w6 : World} {bs ba bb : Nat} {va vb : Value} {la lb : List UInt8} {AD : Option Addr} {N CAP : Nat} {S : List SpE} (h : DInv w wr bs ba bb va vb la lb AD N CAP S) (f5 : Fr [] wr w5) (ob : Obj) (f6 : Fr (Value.ownBlock (.slice AD N CAP)).toList (w5.alloc ob) w6) :
    w6.cell? ⟨bs, 0, none⟩ = some (.slice AD N CAP) ∧ w6.frozen? ⟨bs, 0, none⟩ = false := by
  have h5 := h.kept (f5.alloc ob)
  have c6 : w6.heap[bs]? = some (.cells #[.slice AD N CAP] 37) := f6.same (fun hm => by obtain ⟨cur, hc⟩ := ownSp_cells h5.own hm; exact heap_ne h5.cell hc (by decide) rfl) h5.cell
  exact ⟨cell_of_row w6 bs 0 _ _ _ c6, frozen_of_row w6 bs 0 _ _ c6⟩
theorem DInv.cs {w wr : World} {bs ba bb : Nat} {va vb : Value} {la lb : List UInt8} {AD : Option Addr} {N CAP : Nat} {S : List SpE} (h : DInv w wr bs ba bb va vb la lb AD N CAP S) : wr.cell? ⟨bs, 0, none⟩ = some (.slice AD N CAP) := cell_of_row wr bs 0 _ _ _ h.cell
theorem DInv.ca {w wr : World} {bs ba bb : Nat} {va vb : Value} {la lb : List UInt8} {AD : Option Addr} {N CAP : Nat} {S : List SpE} (h : DInv w wr bs ba bb va vb la lb AD N CAP S) : wr.cell? ⟨ba, 0, none⟩ = some va := cell_of_row wr ba 0 _ _ _ h.boxa
theorem DInv.cb {w wr : World} {bs ba bb : Nat} {va vb : Value} {la lb : List UInt8} {AD : Option Addr} {N CAP : Nat} {S : List SpE} (h : DInv w wr bs ba bb va vb la lb AD N CAP S) : wr.cell? ⟨bb, 0, none⟩ = some vb := cell_of_row wr bb 0 _ _ _ h.boxb
theorem DInv.lts {w wr : World} {bs ba bb : Nat} {va vb : Value} {la lb : List UInt8} {AD : Option Addr} {N CAP : Nat} {S : List SpE} (h : DInv w wr bs ba bb va vb la lb AD N CAP S) : bs < wr.heap.size ∧ ba < wr.heap.size ∧ bb < wr.heap.size :=
  ⟨(Array.getElem?_eq_some_iff.1 h.cell).1, (Array.getElem?_eq_some_iff.1 h.boxa).1, (Array.getElem?_eq_some_iff.1 h.boxb).1⟩

theorem d_boxes {w wr w5 w6 : World} {bs ba bb : Nat} {va vb : Value} {la lb : List UInt8} {AD : Option Addr} {N CAP : Nat} {S : List SpE} (h : DInv w wr bs ba bb va vb la lb AD N CAP S) (f5 : Fr [] wr w5) (ob : Obj) (f6 : Fr (Value.ownBlock (.slice AD N CAP)).toList (w5.alloc ob) w6) :
    w6.cell? ⟨ba, 0, none⟩ = some va ∧ w6.cell? ⟨bb, 0, none⟩ = some vb := by
  have h5 := h.kept (f5.alloc ob)
  have a6 : w6.heap[ba]? = some (.cells #[va] 22) := f6.same (fun hm => by obtain ⟨cur, hc⟩ := ownSp_cells h5.own hm; exact heap_ne h5.boxa hc (by decide) rfl) h5.boxa
  have b6 : w6.heap[bb]? = some (.cells #[vb] 22) := f6.same (fun hm => by obtain ⟨cur, hc⟩ := ownSp_cells h5.own hm; exact heap_ne h5.boxb hc (by decide) rfl) h5.boxb
  exact ⟨cell_of_row w6 ba 0 _ _ _ a6, cell_of_row w6 bb 0 _ _ _ b6⟩
theorem op_appSp {o : Oper} {a : Act} {w : World} {K : Act → World → Prop} {Q : Exit → Act → World → Prop} (s x : Operand) (ho : o.op = .call { callee := .builtin .append, args := #[s, x], argTypes := #[37, 37] }) (w0 : World) (ad0 : Option Addr) (n cap : Nat) (xs : List Value) (b : Nat) (us : List Value) (hs : a.eval s = .slice ad0 n cap) (hx : a.eval x = .slice (some ⟨b, 0, none⟩) 1 1)
    (hown : w.ownsRow w0.heap.size 52 4 (.slice ad0 n cap) n xs) (f0 : Fr [] w0 w) (hb : w.heap[b]? = some (.cells us.toArray 52)) (hu : us.length = 4) (h1 : ∀ u ∈ us, u.oneCell' = true) (hm : n + 1 ≤ 10000)
    (h : ∀ g cap' w', w'.ownsRow w0.heap.size 52 4 (.slice (some ⟨g, 0, none⟩) (n + 1) cap') (n + 1) (xs ++ us) → Fr (Value.ownBlock (.slice ad0 n cap)).toList w w' → Fr [] w0 w' → K (a.put o.dst (.slice (some ⟨g, 0, none⟩) (n + 1) cap')) w') : Oper.wp Try.prog o a w K Q := by
  obtain ⟨g, c', w', hrun, h2, h3, h4⟩ := run_appSp o.type w0 ad0 n cap xs hown f0 b us hb hu h1 hm
  unfold Oper.wp
  simp [execOp, ho, resolve, invoke, builtin, hs, hx, hrun, Result.andThen]
  exact h _ _ _ h2 h3 h4

set_option maxHeartbeats 20000000 in
set_option maxRecDepth 100000 in
theorem putSp_any (w wr : World) (bs ba bb g1 o1 c1 g2 o2 c2 : Nat) (la lb : List UInt8) (AD : Option Addr) (N CAP : Nat) (S : List SpE) (iv : DInv w wr bs ba bb (.slice (some ⟨g1, o1, none⟩) 512 c1) (.slice (some ⟨g2, o2, none⟩) 512 c2) la lb AD N CAP S) (h1 : At512 wr g1 o1 c1 la) (h2 : At512 wr g2 o2 c2 lb) (f t : Nat) (hft : f < t) (ht : t ≤ 512) (hN : N ≤ 60) :
    Calls Try.prog 50 #[.int .i64 f, .int .i64 t, .pointer (some ⟨bs, 0, none⟩), .pointer (some ⟨ba, 0, none⟩), .pointer (some ⟨bb, 0, none⟩)] wr fun r w' =>
      r = .returned (.tuple #[]) ∧ ∃ AD' CAP' bo bn, DInv w w' bs ba bb (.slice (some ⟨g1, o1, none⟩) 512 c1) (.slice (some ⟨g2, o2, none⟩) 512 c2) la lb AD' (N + 1) CAP' (S ++ [⟨f, t - f, bo, bn⟩]) := by
  have IV : Hid (DInv w wr bs ba bb (.slice (some ⟨g1, o1, none⟩) 512 c1) (.slice (some ⟨g2, o2, none⟩) 512 c2) la lb AD N CAP S) := iv
  have xs := iv.cs
  have xa := iv.ca
  have xb := iv.cb
  obtain ⟨ls, lA, lB⟩ := iv.lts
  have k1 : (f : Int) ≤ t := by omega
  have k2 : (t : Int) ≤ c1 := by have := h1.cap; omega
  have k3 : (t : Int) ≤ c2 := by have := h2.cap; omega
  have k4 : ¬ c1 = f := by have := h1.cap; omega
  have k5 : ¬ c2 = f := by have := h2.cap; omega
  have LA : Hid (((la.drop f).take (t - f)).length = t - f) := by show _ = _; rw [List.length_take, List.length_drop, h1.len]; omega
  have LB : Hid (((lb.drop f).take (t - f)).length = t - f) := by show _ = _; rw [List.length_take, List.length_drop, h2.len]; omega
  have SA : Hid (∀ w', Fr [] wr w' → BytesAt w' (some ⟨g1, o1 + f, none⟩) ((la.drop f).take (t - f))) := fun w' ff => (h1.bytes.sub f (t - f)).kept ff (by simp)
  have SB : Hid (∀ w', Fr [] wr w' → BytesAt w' (some ⟨g2, o2 + f, none⟩) ((lb.drop f).take (t - f))) := fun w' ff => (h2.bytes.sub f (t - f)).kept ff (by simp)
  clear iv h1 h2
  go_enter Try.func50, Try.ntmps50
  go_region_law (first
    | (refine step_appSp rfl (.tmp 7) (.tmp 20) rfl w AD N CAP (spv S) w4.heap.size (SpE.vals ⟨f, t - f, bo, bn⟩) rfl rfl (IV.out.kept ((f3.trans f4).alloc _)).own (IV.out.kept ((f3.trans f4).alloc _)).fr (heap_alloc_new _ _) rfl (by simp [SpE.vals, Value.oneCell']) (by omega) ?_; intro g6 cap6 w6 o6 f6 f06; have iv6 := d_step IV.out (e := ⟨f, t - f, bo, bn⟩) (f3.trans f4) (bk3.kept f4 (by simp)) bk4 _ o6 f6 f06 hb3 (Nat.lt_of_lt_of_le bk3.lt hb4) bk4.lt; obtain ⟨x6, z6⟩ := d_boxed IV.out (f3.trans f4) _ f6)
    | (go_simp; go_at_call_of 42 (#[Value.slice (some ⟨g1, o1 + f, none⟩) (t - f) (c1 - f)]); refine (copied_any _ (some ⟨g1, o1 + f, none⟩) (t - f) (c1 - f) ((la.drop f).take (t - f)) LA.out (SA.out _ (Fr.refl [] wr).drew) (by omega)).mono ?_; rintro e w3 ⟨bo, rfl, bk3, hb3, f3'⟩; have f3 : Fr [] wr w3 := (Fr.refl [] wr).drew.trans f3'; have x3s := (IV.out.kept f3).cs; have x3a := (IV.out.kept f3).ca; have x3b := (IV.out.kept f3).cb)
    | (go_simp; go_at_call_of 42 (#[Value.slice (some ⟨g2, o2 + f, none⟩) (t - f) (c2 - f)]); refine (copied_any _ (some ⟨g2, o2 + f, none⟩) (t - f) (c2 - f) ((lb.drop f).take (t - f)) LB.out (SB.out _ f3) (by omega)).mono ?_; rintro e w4 ⟨bn, rfl, bk4, hb4, f4⟩; have x4s := (IV.out.kept (f3.trans f4)).cs; have x4a := (IV.out.kept (f3.trans f4)).ca; have x4b := (IV.out.kept (f3.trans f4)).cb; have l4 := (IV.out.kept (f3.trans f4)).lts.1))
  all_goals
    go_end0
    exact ⟨rfl, _, _, _, _, iv6⟩
end Go.Proofs.Ytlfpoeimgoikkaa
