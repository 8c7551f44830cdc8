/-
  tree.Merge: what it answers is a row of its own, no longer than the one that is handed in.
-/
import Derived.Test.YtdfgmdddnehocabGreatDoorTPart
import Derived.Test.YtdfgmdddnehocabGreatDoorTKids
import Derived.Maps.OwnSet
import Derived.Deep.AppendLies
import Derived.Deep.CutRange
namespace Go.Proofs.YtdfgmdddnehocabGreatDoor
open Go.RowKit Go.Maps Go.Lib

/-! ### rows, by their types -/
theorem own_type {w w' : World} {B E : Nat} {e : TypeId} {v : Value} {n : Nat} {xs : List Value} {L : List Nat} (h : w.ownsRow B e E v n xs) (f : Fr L w w') (hL : ∀ g ∈ L, ∀ cur t, w.heap[g]? = some (.cells cur t) → t ≠ e) : w'.ownsRow B e E v n xs := by
  obtain ⟨h1, h2⟩ := h
  refine ⟨h1, ?_⟩
  rcases h2 with hn | ⟨g, cap, cur, hv, hb, hg, r⟩
  · exact Or.inl hn
  · exact Or.inr ⟨g, cap, cur, hv, hb, f.same (fun hm => hL g hm _ _ hg rfl) hg, r⟩
theorem own_blk {w w' : World} {B E : Nat} {e : TypeId} {v : Value} {n : Nat} {xs : List Value} {L : List Nat} (h : w.ownsRow B e E v n xs) (f : Fr L w w') (hL : ∀ g, v.ownBlock = some g → g ∉ L) : w'.ownsRow B e E v n xs := by
  obtain ⟨h1, h2⟩ := h
  refine ⟨h1, ?_⟩
  rcases h2 with hn | ⟨g, cap, cur, rfl, hb, hg, r⟩
  · exact Or.inl hn
  · exact Or.inr ⟨g, cap, cur, rfl, hb, f.same (hL g rfl) hg, r⟩
theorem own_t {w : World} {B E : Nat} {e : TypeId} {v : Value} {n : Nat} {xs : List Value} (h : w.ownsRow B e E v n xs) : ∀ g ∈ v.ownBlock.toList, B ≤ g ∧ ∃ cur, w.heap[g]? = some (.cells cur e) := by
  intro g hg
  rcases h.2 with ⟨hn, _⟩ | ⟨g', cap, cur, hv, hb, hg', r⟩
  · rw [hn] at hg
    simp [Value.ownBlock] at hg
  · rw [hv] at hg
    simp [Value.ownBlock] at hg
    subst hg
    exact ⟨hb, cur, hg'⟩
theorem fr_row {w w' : World} {row : Option Nat} (k : w.grownBy w' row) : Fr row.toList w w' := (Fr.refl _ _).grown k (fun j e _ => by simp [e])

/-! ### the map of texts -/
def TxAt (w : World) (b n m : Nat) : Prop := ∃ D : DataW Unit, w.ownsMap Tryz.prog 3 (plainElem Tryz.prog 3) b n D ∧ ∀ x c, Maps.has D (.int .i64 x) = true → D.atKey (.int .i64 x) (.lit (.int .i64 0)) = .lit (.int .i64 c) → 0 ≤ c ∧ c < (m : Int)
theorem law3m : Keyed Tryz.prog 3 := int_keyed Tryz.underlying3
theorem zero3m (w : World) : (zeroValue 3).run Tryz.prog w = .ok (.int .i64 0) w := by kernel_rfl
theorem TxAt.lt {w : World} {b n m : Nat} (h : TxAt w b n m) : b < w.heap.size := by obtain ⟨D, h, _⟩ := h; exact h.lt
theorem TxAt.kept {w w' : World} {b n m : Nat} {L : List Nat} (h : TxAt w b n m) (f : Fr L w w') (hb : b ∉ L) : TxAt w' b n m := by
  have hlt := h.lt
  obtain ⟨D, ⟨es, clock, hb', r⟩, hs⟩ := h
  exact ⟨D, ⟨es, clock, (f.block b hlt hb).trans hb', r⟩, hs⟩
theorem TxAt.mono {w : World} {b n n' m m' : Nat} (h : TxAt w b n m) (hn : n ≤ n') (hm : m ≤ m') : TxAt w b n' m' := by
  obtain ⟨D, h1, h2⟩ := h
  exact ⟨D, h1.mono hn, fun x c a b => by have := h2 x c a b; omega⟩
theorem TxAt.made (w : World) : TxAt (w.alloc (.map #[] 0)) w.heap.size 0 0 := ⟨_, World.ownsMap_made w Tryz.prog 3 _, fun x c h => by simp [Maps.has] at h⟩
theorem TxAt.notcells {w : World} {b n m : Nat} (h : TxAt w b n m) : ∀ cur t, w.heap[b]? ≠ some (.cells cur t) := by
  obtain ⟨D, ⟨es, clock, hb', r⟩, hs⟩ := h
  intro cur t e
  rw [hb'] at e
  cases e

section
variable {ops : Array Oper} {rest : List Oper} {o : Oper} {a : Act} {w : World} {Q : Exit → Act → World → Prop}
theorem wp_txLook (hgd : o.guard = none) (m x : Operand) (ho : o.op = Op.lookup 64 m x true) (b n k : Nat) (p : Int) (hm : a.eval m = .map (some b)) (ht : TxAt w b n k) (hx : a.eval x = .int .i64 p) (hw : (Lit.int .i64 p).wf = true)
    (h : ∀ (c : Int) (is : Bool), (is = true → 0 ≤ c ∧ c < (k : Int)) → wpList Tryz.prog ops Q rest (a.put o.dst (.tuple #[.int .i64 c, .bool is])) w) : wpList Tryz.prog ops Q (o :: rest) a w := by
  obtain ⟨D, hown, hs⟩ := ht
  refine wpList_lookup_own_ok_int w hgd m x 64 ho 3 3 .i64 law3m Tryz.underlying64 Tryz.underlying3 (zero3m w) b n D hm hown _ _ hx (keyOf_int_mk Tryz.underlying3 hw) ?_
  intro c hc _
  exact h c _ (fun hi => hs p c hi hc)
theorem wp_txPut (hgd : o.guard = none) (m x v : Operand) (ho : o.op = Op.mapUpdate 64 m x v) (b n k k' : Nat) (p c : Int) (hm : a.eval m = .map (some b)) (ht : TxAt w b n k) (hn : n < maxLen) (hx : a.eval x = .int .i64 p) (hv : a.eval v = .int .i64 c) (hw : (Lit.int .i64 p).wf = true) (hc0 : 0 ≤ c) (hc1 : c < (k' : Int)) (hk : k ≤ k') (hk' : k' ≤ 1000000)
    (h : ∀ w', TxAt w' b (n + 1) k' → Fr [b] w w' → wpList Tryz.prog ops Q rest (a.put o.dst undef) w') : wpList Tryz.prog ops Q (o :: rest) a w := by
  obtain ⟨D, hown, hs⟩ := ht
  have hwc : (Lit.int .i64 c).wf = true := WalkArith.wf_i64 (by omega)
  refine wpList_mapUpdate_in w hgd m x v 64 ho 3 3 law3m Tryz.underlying64 _ b n D hm hown hn _ _ _ hx hv (keyOf_int_mk Tryz.underlying3 hw) _ [] (plainElem_int Tryz.underlying3 hwc) ?_
  intro w' hown' hturn
  refine h w' ⟨_, hown', fun y d hi hd => ?_⟩ ((Fr.refl _ _).grown hturn.grown (fun j e _ => by simp at e; simp [e]))
  by_cases e : p = y
  · subst e
    rw [atKey_put_same hown.isMap (show WideAt.IsKeyLit (.int .i64 p) from trivial)] at hd
    simp at hd
    omega
  · rw [atKey_put_other (by simpa using fun e' => e e'.symm)] at hd
    rw [has_put_other (by simpa using fun e' => e e'.symm)] at hi
    have := hs y d hi hd
    omega
theorem wp_txDel (hgd : o.guard = none) (m x : Operand) (ho : o.op = Op.call { callee := Callee.builtin Builtin.delete, args := #[m, x], argTypes := #[64, 3] }) (b n k : Nat) (p : Int) (hm : a.eval m = .map (some b)) (ht : TxAt w b n k) (hx : a.eval x = .int .i64 p) (hw : (Lit.int .i64 p).wf = true)
    (h : ∀ w', TxAt w' b n k → Fr [b] w w' → wpList Tryz.prog ops Q rest (a.put o.dst (.tuple #[])) w') : wpList Tryz.prog ops Q (o :: rest) a w := by
  obtain ⟨D, hown, hs⟩ := ht
  refine wpList_delete_own w hgd m x 64 3 ho 3 law3m Tryz.underlying64 _ b n D hm hown _ _ hx (keyOf_int_mk Tryz.underlying3 hw) ?_
  intro w' hown' hturn
  refine h w' ⟨_, hown', fun y d hi hd => ?_⟩ ((Fr.refl _ _).grown hturn.grown (fun j e _ => by simp at e; simp [e]))
  by_cases e : p = y
  · subst e
    rw [has_del_same] at hi
    cases hi
  · rw [atKey_del_other (by simpa using fun e' => e e'.symm)] at hd
    rw [has_del_other (by simpa using fun e' => e e'.symm)] at hi
    exact hs y d hi hd
end

/-! ### the table of rows of texts -/
structure Ent where
  b : Nat
  c : Nat
  l : List ByteArray
def Ent.v (e : Ent) : Value := .slice (some ⟨e.b, 0, none⟩) e.l.length e.c
def Ent.tot (e : Ent) : Nat := ((e.l.map bl).flatten).length
def totE : List Ent → Nat
  | [] => 0
  | e :: r => e.tot + totE r
theorem totE_app : ∀ a b : List Ent, totE (a ++ b) = totE a + totE b
  | [], b => by simp [totE]
  | e :: r, b => by simp [totE, totE_app r b]; omega
theorem totE_mem : ∀ (E : List Ent) (e : Ent), e ∈ E → e.tot ≤ totE E
  | x :: r, e, h => by
    rcases List.mem_cons.1 h with rfl | h
    · simp [totE]
    · have := totE_mem r e h
      simp [totE]
      omega
theorem totE_set : ∀ (E : List Ent) (i : Nat) (e : Ent) (h : i < E.length) (x : Nat), e.tot = E[i].tot + x → totE (E.set i e) = totE E + x
  | y :: r, 0, _, _, x, he => by simp [totE] at he ⊢; omega
  | y :: r, i + 1, e, h, x, he => by
    have := totE_set r i e (by simpa using h) x (by simpa using he)
    simp [totE, this]
    omega
theorem tot_snoc (b c b' c' : Nat) (l : List ByteArray) (x : ByteArray) : Ent.tot ⟨b, c, l ++ [x]⟩ = Ent.tot ⟨b', c', l⟩ + x.size := by
  simp [Ent.tot, bl_length]

structure Vt (B : Nat) (w : World) (v : Value) (E : List Ent) : Prop where
  own : w.ownsRow B 66 1 v E.length (E.map Ent.v)
  each : ∀ e ∈ E, w.ownsRow B 9 1 e.v e.l.length (e.l.map Value.string)
  apart : E.Pairwise (fun a b => a.b ≠ b.b)
theorem Vt.kept {B : Nat} {w w' : World} {v : Value} {E : List Ent} {L : List Nat} (h : Vt B w v E) (f : Fr L w w') (hL : ∀ g ∈ L, ∀ cur t, w.heap[g]? = some (.cells cur t) → t ≠ 66 ∧ t ≠ 9) : Vt B w' v E :=
  ⟨own_type h.own f (fun g hg cur t e => (hL g hg cur t e).1), fun x hx => own_type (h.each x hx) f (fun g hg cur t e => (hL g hg cur t e).2), h.apart⟩
theorem Vt.nil (B : Nat) (w : World) : Vt B w (.slice none 0 0) [] := ⟨World.ownsRow_nil w _ _ 1, fun _ he => (nomatch he), List.Pairwise.nil⟩
theorem Vt.at {B : Nat} {w : World} {v : Value} {E : List Ent} (h : Vt B w v E) (i : Nat) (hi : i < E.length) : ∃ g cap, v = .slice (some ⟨g, 0, none⟩) E.length cap ∧ w.cell? ⟨g, i, none⟩ = some (E[i].v) ∧ w.frozen? ⟨g, i, none⟩ = false ∧ B ≤ g := by
  rcases h.own.2 with ⟨_, h0⟩ | ⟨g, cap, cur, hv, hb, hg, hcap, hmx, hsz, htk⟩
  · omega
  · refine ⟨g, cap, hv, ?_, frozen_of_row w g i _ _ hg, hb⟩
    rw [cell_of_row w g i _ _ _ hg]
    have h2 : (E.map Ent.v)[i]? = some (E[i].v) := by simp [hi]
    rw [← h2, ← htk, List.getElem?_take]
    simp
    intro hh
    omega
theorem infoStrs' : ∃ i, Tryz.prog.info? 66 = some i ∧ i.zero = some (.slice none 0 0) ∧ i.size = 1 ∧ i.bytes = 24 := by
  have h : (Tryz.prog.info? 66).map (fun i => (i.zero, i.size, i.bytes)) = some (some (.slice none 0 0), 1, 24) := by kernel_rfl
  cases hi : Tryz.prog.info? 66 with
  | none => rw [hi] at h; cases h
  | some i =>
    rw [hi] at h
    simp at h
    exact ⟨i, rfl, h.1, h.2.1, h.2.2⟩
section
variable {ops : Array Oper} {rest : List Oper} {o : Oper} {a : Act} {w : World} {Q : Exit → Act → World → Prop}
/-- A new row of one text behind the others. -/
theorem wp_vtPush (hgd : o.guard = none) (s x : Operand) (ho : o.op = .call { callee := .builtin .append, args := #[s, x], argTypes := #[43, 43] }) (B : Nat) (v : Value) (E : List Ent) (b g1 : Nat) (z : ByteArray) (hs : a.eval s = v) (hx : a.eval x = .slice (some ⟨b, 0, none⟩) 1 1)
    (ht : Vt B w v E) (hb : w.heap[b]? = some (.cells #[.slice (some ⟨g1, 0, none⟩) 1 1] 66)) (hg1 : w.heap[g1]? = some (.cells #[.string z] 9)) (hB1 : B ≤ g1) (hne : ∀ e ∈ E, e.b ≠ g1) (hB : B ≤ w.heap.size) (hm : E.length + 1 ≤ 100000)
    (h : ∀ g c' w' L, Vt B w' (.slice (some ⟨g, 0, none⟩) (E.length + 1) c') (E ++ [⟨g1, 1, [z]⟩]) → Fr L w w' → (∀ j ∈ L, B ≤ j ∧ ∃ cur, w.heap[j]? = some (.cells cur 66)) → wpList Tryz.prog ops Q rest (a.put o.dst (.slice (some ⟨g, 0, none⟩) (E.length + 1) c')) w') : wpList Tryz.prog ops Q (o :: rest) a w := by
  obtain ⟨i, hi, hz, hsz, hbb⟩ := infoStrs'
  refine wpList_append_lies w hgd s x 43 ho B 66 i (.slice none 0 0) 1 24 Tryz.underlying43 hi hz hsz hbb rfl (by omega) v E.length (E.map Ent.v) hs ht.own ⟨b, 0, none⟩ 1 1 [.slice (some ⟨g1, 0, none⟩) 1 1] hx (by simp)
    (by
      intro j u hu
      cases j with
      | zero => simp at hu; subst hu; rw [Addr.add_mid]; exact cell_of_row w b 0 _ _ _ hb
      | succ j => simp at hu) (by intro u hu; simp at hu; subst hu; rfl) (by omega) (by unfold maxLen; omega) (by omega) hB _ rfl ?_
  intro g cap w' own gr _ _
  have f := fr_row gr
  have hT := own_t ht.own
  have hL9 : ∀ j ∈ v.ownBlock.toList, ∀ cur t, w.heap[j]? = some (.cells cur t) → t ≠ 9 := by
    intro j hj cur t e
    obtain ⟨_, cur', e'⟩ := hT j hj
    rw [e] at e'
    cases e'
    decide
  refine h g cap w' _ ⟨?_, ?_, ?_⟩ f hT
  · rw [List.length_append, List.map_append]
    exact own
  · intro e he
    rcases List.mem_append.1 he with he | he
    · exact own_type (ht.each e he) f hL9
    · simp at he
      subst he
      refine own_type (L := v.ownBlock.toList) (w := w) ⟨rfl, Or.inr ⟨g1, 1, #[.string z], rfl, hB1, hg1, Nat.le_refl _, by unfold maxLen; omega, rfl, rfl⟩⟩ f hL9
  · rw [List.pairwise_append]
    refine ⟨ht.apart, by simp, ?_⟩
    intro a ha b hb'
    simp at hb'
    subst hb'
    exact hne a ha
end

/-- One more text behind those of a row: the row, then the table. -/
theorem Vt.more {B : Nat} {w w' : World} {v : Value} {E : List Ent} (h : Vt B w v E) (i : Nat) (hi : i < E.length) (z : ByteArray) (g cap : Nat) (own : w'.ownsRow B 9 1 (.slice (some ⟨g, 0, none⟩) (E[i].l.length + 1) cap) (E[i].l.length + 1) (E[i].l.map Value.string ++ [.string z])) (f : Fr (E[i].v).ownBlock.toList w w') (hg : (E[i].v).ownBlock = some g ∨ g = w.heap.size) (t : Nat) (tc : Nat) (hv : v = .slice (some ⟨t, 0, none⟩) E.length tc) :
    Vt B (w'.setCell ⟨t, i, none⟩ (.slice (some ⟨g, 0, none⟩) (E[i].l.length + 1) cap)) v (E.set i ⟨g, cap, E[i].l ++ [z]⟩) ∧ Fr (t :: (E[i].v).ownBlock.toList) w (w'.setCell ⟨t, i, none⟩ (.slice (some ⟨g, 0, none⟩) (E[i].l.length + 1) cap)) := by
  have hei : E[i] ∈ E := List.getElem_mem _
  have hob : (E[i].v).ownBlock.toList = [E[i].b] := by simp [Ent.v, Value.ownBlock]
  have hT := own_t (h.each _ hei)
  have hb9 : ∃ cur, w.heap[E[i].b]? = some (.cells cur 9) := (hT _ (by rw [hob]; simp)).2
  obtain ⟨cur9, hb9⟩ := hb9
  rw [hob] at f ⊢
  have htab : ∃ cur, w.heap[t]? = some (.cells cur 66) := (own_t h.own t (by rw [hv]; simp [Value.ownBlock])).2
  obtain ⟨curt, htab⟩ := htab
  have hne : t ≠ E[i].b := by
    intro e
    rw [e, hb9] at htab
    injection htab with htab
    injection htab with _ h2
    exact absurd h2 (by decide)
  have tab' : w'.ownsRow B 66 1 v E.length (E.map Ent.v) := own_type h.own f (fun g' hg' cur ty e => by simp at hg'; subst hg'; rw [hb9] at e; cases e; decide)
  have hfr : Fr (t :: [E[i].b]) w (w'.setCell ⟨t, i, none⟩ (.slice (some ⟨g, 0, none⟩) (E[i].l.length + 1) cap)) := (f.mono (M := t :: [E[i].b]) (fun k _ hk => List.mem_cons_of_mem _ hk)).setCell _ _ (fun _ => List.mem_cons_self)
  refine ⟨⟨?_, ?_, ?_⟩, hfr⟩
  · rw [List.length_set]
    obtain ⟨k1, k2⟩ := tab'
    refine ⟨by simp, ?_⟩
    rcases k2 with ⟨e, e2⟩ | ⟨g', c', cur, e, hb', hg', hnc, hcm, hcs, hx⟩
    · rw [hv] at e; cases e
    · rw [hv] at e
      cases e
      refine Or.inr ⟨t, tc, _, hv, hb', heap_setCell_same w' t i _ _ _ hg', hnc, hcm, by simpa using hcs, ?_⟩
      rw [List.map_set, ← hx, Array.toList_setIfInBounds, List.take_set]
      simp [Ent.v]
  · intro e he
    have fs : Fr [t] w' (w'.setCell ⟨t, i, none⟩ (.slice (some ⟨g, 0, none⟩) (E[i].l.length + 1) cap)) := (Fr.refl _ _).setCell _ _ (by simp)
    have ht9 : ∀ g' ∈ [t], ∀ cur ty, w'.heap[g']? = some (.cells cur ty) → ty ≠ 9 := by
      intro g' hg' cur ty e
      simp at hg'
      subst hg'
      have := f.same (k := g') (by simpa using hne) htab
      rw [this] at e
      cases e
      decide
    obtain ⟨j, hj, rfl⟩ := List.getElem_of_mem he
    rw [List.length_set] at hj
    simp only [List.getElem_set]
    by_cases eij : i = j
    · simp only [if_pos eij]
      refine own_type ?_ fs ht9
      simpa [Ent.v] using own
    · simp only [if_neg eij]
      have heb : E[j].b ≠ E[i].b := by
        have hp := List.pairwise_iff_getElem.1 h.apart
        rcases Nat.lt_or_gt_of_ne eij with hlt | hlt
        · exact fun e => hp i j hi hj hlt e.symm
        · exact hp j i hj hi hlt
      refine own_type (own_blk (h.each _ (List.getElem_mem hj)) f ?_) fs ht9
      intro g' hg'
      have : E[j].b = g' := by simpa [Ent.v, Value.ownBlock] using hg'
      subst this
      simpa using heb
  · rw [List.pairwise_iff_getElem]
    intro p q hp hq hpq
    rw [List.length_set] at hp hq
    have hP := List.pairwise_iff_getElem.1 h.apart
    have newb : ∀ j (hj : j < E.length), j ≠ i → E[j].b ≠ g := by
      intro j hj hji e
      rcases hg with h1 | h1
      · have : E[i].b = g := by simpa [Ent.v, Value.ownBlock] using h1
        rw [← this] at e
        rcases Nat.lt_or_gt_of_ne hji with hlt | hlt
        · exact hP j i hj hi hlt e
        · exact hP i j hi hj hlt e.symm
      · have := (own_t (h.each _ (List.getElem_mem hj)) E[j].b (by simp [Ent.v, Value.ownBlock])).2
        obtain ⟨cur, hc⟩ := this
        have := (Array.getElem?_eq_some_iff.1 hc).1
        omega
    rw [List.getElem_set, List.getElem_set]
    by_cases e1 : i = p
    · rw [if_pos e1, if_neg (by omega)]
      exact fun e => newb q hq (by omega) e.symm
    · rw [if_neg e1]
      by_cases e2 : i = q
      · rw [if_pos e2]
        exact newb p hp (by omega)
      · rw [if_neg e2]
        exact hP p q hp hq hpq
end Go.Proofs.YtdfgmdddnehocabGreatDoor

namespace Go.Proofs.YtdfgmdddnehocabGreatDoor
open Go.RowKit Go.Maps Go.Lib

set_option maxHeartbeats 1000000 in
set_option maxRecDepth 100000 in
theorem inOrder_any (w : World) (ad : Option Addr) (n c : Nat) (t : List Nd) (hn : t.length = n) (hN : NodesAt w ad t) (hl : n ≤ 16384) :
    Calls Tryz.prog 21 #[.slice ad n c] w fun e w' => ∃ b, e = .returned (.bool b) ∧ (b = true → ∀ j, j < n → Ord t j) ∧ Fr [] w w' := by
  subst hn
  have HN := Hid.mk hN
  clear hN
  go_enter Tryz.func21, Tryz.ntmps21
  go_wp2_with fail
  go_loopw [8] (fun s8 wr => ∃ i : Nat, i ≤ t.length ∧ s8 = .int .i64 (i : Int) ∧ Hid (∀ j, j < i → Ord t j) ∧ Hid (Fr [] w wr)) (fun s8 _ => t.length - (RowKit.intOf s8).toNat)
  case atStart => exact ⟨0, by omega, rfl, Hid.mk (fun j hj => by omega), Hid.mk (Fr.refl _ _)⟩
  case round =>
    obtain ⟨i, hi, rfl, hO, fr⟩ := hrel
    by_cases hlt : i < t.length
    · have hlt' : (i : Int) < (t.length : Int) := by omega
      obtain ⟨b, off, rfl, hI⟩ := NodesAt.in (HN.out.kept fr.out) (by omega)
      have HI := Hid.mk hI
      clear hI
      go_wp2_with fail
      refine (rise_any _ b off c t HI.out i hlt hl hO.out).mono ?_
      rintro e w5 ⟨left, rfl, -, f5⟩
      cases ho : ordB t i with
      | true =>
        go_wp2_with fail
        refine ⟨⟨i + 1, by omega, by go_num, Hid.mk (fun j hj => ?_), Hid.mk (fr.out.trans f5)⟩, by simp [RowKit.intOf]; omega⟩
        by_cases e : j < i
        · exact hO.out j e
        · obtain rfl : j = i := by omega
          exact of_decide_eq_true ho
      | false =>
        go_wp2_with fail
        go_ret
        exact ⟨false, rfl, (fun h => nomatch h), fr.out.trans f5⟩
    · obtain rfl : i = t.length := by omega
      go_wp2_with fail
      go_ret
      exact ⟨true, rfl, (fun _ => hO.out), fr.out⟩

def aboveB (t : List Nd) (i : Nat) : Bool := decide (i + 1 < t.length ∧ par t (i + 1) = (i : Int))
set_option maxHeartbeats 400000 in
set_option maxRecDepth 100000 in
theorem isAbove_any (w : World) (ad : Option Addr) (n c : Nat) (t : List Nd) (hn : t.length = n) (hN : NodesAt w ad t) (hl : n ≤ 16384) (i : Nat) (hi : i < n) :
    Calls Tryz.prog 22 #[.slice ad n c, .int .i64 (i : Int)] w fun e w' => e = .returned (.bool (aboveB t i)) ∧ w' = w := by
  subst hn
  obtain ⟨J, HJ⟩ : ∃ J, Hid (i + 1 = J) := ⟨_, Hid.mk rfl⟩
  have hJ0 : (0 : Int) ≤ (J : Int) := by omega
  have hw : IntKind.i64.wrap ((i : Int) + 1) = (J : Int) := by rw [← HJ.out]; exact wrapI (by omega) (by omega)
  have hab : aboveB t i = decide (J < t.length ∧ par t J = (i : Int)) := by unfold aboveB; rw [HJ.out]
  by_cases h1 : J < t.length
  · have h1' : (J : Int) < (t.length : Int) := by omega
    obtain ⟨b, off, rfl, c0, c1, c2, c3⟩ := hN J h1
    generalize hp : par t J = p at c3
    have HA : Hid (aboveB t i = (p == (i : Int))) := Hid.mk (by
      rw [hab, hp]
      by_cases hq : p = (i : Int)
      · rw [decide_eq_true ⟨h1, hq⟩]; simp [hq]
      · rw [decide_eq_false (fun h => hq h.2)]; simp [hq])
    clear hp c0 c1 c2 hab
    go_enter Tryz.func22, Tryz.ntmps22
    go_wp2_with fail
    go_ret
    rw [HA.out]
    exact ⟨rfl, rfl⟩
  · have h1' : ¬ (J : Int) < (t.length : Int) := by omega
    have HA : Hid (aboveB t i = false) := Hid.mk (by rw [hab]; exact decide_eq_false (fun h => h1 h.1))
    clear h1 hab
    go_enter Tryz.func22, Tryz.ntmps22
    go_wp2_with fail
    go_ret
    rw [HA.out]
    exact ⟨rfl, rfl⟩

/-! ### places -/
def PlAt (w : World) (g n : Nat) : Prop := ∃ cur : Array Value, w.heap[g]? = some (.cells cur 3) ∧ cur.size = n ∧ ∀ j, j < n → ∃ x : Int, cur[j]? = some (.int .i64 x) ∧ 0 ≤ x ∧ x ≤ 100000
theorem PlAt.kept {w w' : World} {g n : Nat} {L : List Nat} (h : PlAt w g n) (f : Fr L w w') (hg : g ∉ L) : PlAt w' g n := by
  obtain ⟨cur, h1, h2⟩ := h
  exact ⟨cur, f.same hg h1, h2⟩
theorem PlAt.cell {w : World} {g n : Nat} (h : PlAt w g n) (j : Nat) (hj : j < n) : ∃ x : Int, w.cell? ⟨g, j, none⟩ = some (.int .i64 x) ∧ 0 ≤ x ∧ x ≤ 100000 ∧ w.frozen? ⟨g, j, none⟩ = false := by
  obtain ⟨cur, h1, h2, h3⟩ := h
  obtain ⟨x, hx, r⟩ := h3 j hj
  exact ⟨x, by rw [cell_of_row w g j _ _ _ h1]; exact hx, r.1, r.2, frozen_of_row w g j _ _ h1⟩
theorem PlAt.set {w : World} {g n : Nat} (h : PlAt w g n) (j : Nat) (x : Int) (h0 : 0 ≤ x) (h1 : x ≤ 100000) : PlAt (w.setCell ⟨g, j, none⟩ (.int .i64 x)) g n := by
  obtain ⟨cur, k1, k2, k3⟩ := h
  refine ⟨_, heap_setCell_same w g j _ _ _ k1, by simpa using k2, fun i hi => ?_⟩
  by_cases e : i = j
  · subst e
    refine ⟨x, ?_, h0, h1⟩
    rw [Array.getElem?_setIfInBounds_self]
    simp [k2, hi]
  · obtain ⟨y, hy, r⟩ := k3 i hi
    exact ⟨y, by rw [Array.getElem?_setIfInBounds_ne (fun e2 => e e2.symm)]; exact hy, r⟩
section
variable {ops : Array Oper} {rest : List Oper} {o : Oper} {a : Act} {w : World} {Q : Exit → Act → World → Prop}
theorem infoI3 : ∃ i, Tryz.prog.info? 3 = some i ∧ i.zero = some (.int .i64 0) ∧ i.size = 1 ∧ i.bytes = 8 := by
  have h : (Tryz.prog.info? 3).map (fun i => (i.zero, i.size, i.bytes)) = some (some (.int .i64 0), 1, 8) := by kernel_rfl
  cases hi : Tryz.prog.info? 3 with
  | none => rw [hi] at h; cases h
  | some i =>
    rw [hi] at h
    simp at h
    exact ⟨i, rfl, h.1, h.2.1, h.2.2⟩
theorem wp_makePl (hgd : o.guard = none) (x y : Operand) (ho : o.op = .makeSlice 29 x y) (n : Nat) (hx : a.eval x = .int .i64 (n : Int)) (hy : a.eval y = .int .i64 (n : Int)) (hn : n ≤ 100000)
    (h : ∀ w' g, w.heap.size ≤ g → PlAt w' g n → Fr [] w w' → wpList Tryz.prog ops Q rest (a.put o.dst (.slice (some ⟨g, 0, none⟩) n n)) w') : wpList Tryz.prog ops Q (o :: rest) a w :=
  wpList_plain hgd fun K hK => by
    obtain ⟨i, hi, hz, hs, hb⟩ := infoI3
    have hrun := run_makeSlice (P := Tryz.prog) w 29 3 i (.int .i64 0) Tryz.underlying29 hi hz .i64 .i64 (n : Int) (n : Int) (by omega) (by omega) (by rw [hs]; omega) (by rw [hb]; omega) (by omega)
    rw [hs, Int.toNat_natCast, Nat.mul_one] at hrun
    unfold Oper.wp execOp
    simp [ho, hx, hy, hrun, Result.andThen]
    refine hK _ _ (h _ _ (Nat.le_refl _) ⟨_, heap_alloc_new w _, by simp [madeCells], fun j hj => ⟨0, ?_, by omega, by omega⟩⟩ ((Fr.refl _ _).alloc _))
    simp [madeCells, hj, Value.cells, Nat.mod_one]
end

def vsum (t : List Nd) : Nat → Nat
  | 0 => 0
  | i + 1 => vsum t i + (vlu t i).size

/-- What Merge keeps. -/
structure Mg (w0 w : World) (gp gm n i m k T : Nat) (v3 v4 : Value) (t3 : List Nd) (E : List Ent) : Prop where
  row : w.ownsRow w0.heap.size 62 4 v3 m (rowL t3)
  rl : t3.length = m
  vt : Vt w0.heap.size w v4 E
  el : E.length = m
  sum : totE E ≤ T
  pl : PlAt w gp n
  gpB : w0.heap.size ≤ gp
  mp : TxAt w gm i k
  gmB : w0.heap.size ≤ gm
  fr : Fr [] w0 w
  mi : m ≤ i
  cnt : ∀ e ∈ E, e.l.length ≤ i
section
variable {w0 w w' : World} {gp gm n i m k T : Nat} {v3 v4 : Value} {t3 : List Nd} {E : List Ent}
theorem Mg.kept0 (h : Mg w0 w gp gm n i m k T v3 v4 t3 E) (f : Fr [] w w') : Mg w0 w' gp gm n i m k T v3 v4 t3 E :=
  { h with row := own_type h.row f (by simp), vt := h.vt.kept f (by simp), pl := h.pl.kept f (by simp), mp := h.mp.kept f (by simp), fr := h.fr.trans f }
theorem Mg.plt (h : Mg w0 w gp gm n i m k T v3 v4 t3 E) : gp < w.heap.size ∧ gm < w.heap.size ∧ gp ≠ gm := by
  have h1 := h.mp.lt
  have h2 := h.mp.notcells
  obtain ⟨cur, c1, _⟩ := h.pl
  exact ⟨(Array.getElem?_eq_some_iff.1 c1).1, h1, fun e => h2 _ _ (e ▸ c1)⟩
theorem Mg.place (h : Mg w0 w gp gm n i m k T v3 v4 t3 E) (j : Nat) (x : Int) (h0 : 0 ≤ x) (h1 : x ≤ 100000) : Mg w0 (w.setCell ⟨gp, j, none⟩ (.int .i64 x)) gp gm n i m k T v3 v4 t3 E := by
  have f : Fr [gp] w (w.setCell ⟨gp, j, none⟩ (.int .i64 x)) := (Fr.refl _ _).setCell _ _ (by simp)
  have hne := h.plt
  obtain ⟨cur, c1, _⟩ := h.pl
  have hty : ∀ g ∈ [gp], ∀ cur' t, w.heap[g]? = some (.cells cur' t) → t = 3 := by
    intro g hg cur' t e
    simp at hg
    subst hg
    rw [c1] at e
    cases e
    rfl
  refine { h with row := own_type h.row f (fun g hg cur' t e => by rw [hty g hg cur' t e]; decide), vt := h.vt.kept f (fun g hg cur' t e => by rw [hty g hg cur' t e]; exact ⟨by decide, by decide⟩), pl := h.pl.set j x h0 h1, mp := h.mp.kept f (by simpa using hne.2.2.symm), fr := h.fr.then f (fun q hq hm => ?_) }
  simp at hm
  have := h.gpB
  omega
theorem Mg.map (h : Mg w0 w gp gm n i m k T v3 v4 t3 E) (f : Fr [gm] w w') {i' k' : Nat} (ht : TxAt w' gm i' k') (hi : i ≤ i') : Mg w0 w' gp gm n i' m k' T v3 v4 t3 E := by
  have hne := h.plt
  have hno := h.mp.notcells
  refine { h with row := own_type h.row f (fun g hg cur' t e => by simp at hg; subst hg; exact absurd e (hno _ _)), vt := h.vt.kept f (fun g hg cur' t e => by simp at hg; subst hg; exact absurd e (hno _ _)), pl := h.pl.kept f (by simpa using hne.2.2), mp := ht, fr := h.fr.then f (fun q hq hm => ?_), mi := Nat.le_trans h.mi hi, cnt := fun e he => Nat.le_trans (h.cnt e he) hi }
  simp at hm
  have := h.gmB
  omega
theorem Mg.on (h : Mg w0 w gp gm n i m k T v3 v4 t3 E) {i' k' T' : Nat} (hi : i ≤ i') (hk : k ≤ k') (hT : T ≤ T') : Mg w0 w gp gm n i' m k' T' v3 v4 t3 E :=
  { h with sum := Nat.le_trans h.sum hT, mp := h.mp.mono hi hk, mi := Nat.le_trans h.mi hi, cnt := fun e he => Nat.le_trans (h.cnt e he) hi }
/-- A node more, behind the row. -/
theorem Mg.grow (h : Mg w0 w gp gm n i m k T v3 v4 t3 E) {v3' : Value} {x : Nd} (f : Fr v3.ownBlock.toList w w') (own : w'.ownsRow w0.heap.size 62 4 v3' (m + 1) (rowL t3 ++ ndL x)) :
    w'.ownsRow w0.heap.size 62 4 v3' (m + 1) (rowL (t3 ++ [x])) ∧ Vt w0.heap.size w' v4 E ∧ PlAt w' gp n ∧ TxAt w' gm i k ∧ Fr [] w0 w' := by
  have hT := own_t h.row
  have hno := h.mp.notcells
  obtain ⟨cur, c1, _⟩ := h.pl
  have hty : ∀ g ∈ v3.ownBlock.toList, ∀ cur' t, w.heap[g]? = some (.cells cur' t) → t = 62 := by
    intro g hg cur' t e
    obtain ⟨_, c2, e2⟩ := hT g hg
    rw [e] at e2
    cases e2
    rfl
  refine ⟨?_, h.vt.kept f (fun g hg cur' t e => by rw [hty g hg cur' t e]; exact ⟨by decide, by decide⟩), h.pl.kept f (fun hm => ?_), h.mp.kept f (fun hm => ?_), h.fr.then f (fun q hq hm => ?_)⟩
  · rw [rowL_app]
    simpa [rowL] using own
  · have := hty _ hm _ _ c1
    exact absurd this (by decide)
  · obtain ⟨_, c2, e2⟩ := hT _ hm
    exact absurd e2 (hno _ _)
  · have := (hT q hm).1
    omega
end
end Go.Proofs.YtdfgmdddnehocabGreatDoor

namespace Go.Proofs.YtdfgmdddnehocabGreatDoor
open Go.RowKit Go.Maps Go.Lib

theorem Mg.rowlt {w0 w : World} {gp gm n i m k T : Nat} {v3 v4 : Value} {t3 : List Nd} {E : List Ent} (h : Mg w0 w gp gm n i m k T v3 v4 t3 E) : ∀ g ∈ v3.ownBlock.toList, g < w.heap.size := by
  intro g hg
  obtain ⟨_, cur, e⟩ := own_t h.row g hg
  exact (Array.getElem?_eq_some_iff.1 e).1
theorem Vt.lt {B : Nat} {w : World} {v : Value} {E : List Ent} (h : Vt B w v E) : ∀ e ∈ E, e.b < w.heap.size := by
  intro e he
  obtain ⟨_, cur, hc⟩ := own_t (h.each e he) e.b (by simp [Ent.v, Value.ownBlock])
  exact (Array.getElem?_eq_some_iff.1 hc).1
section
variable {ops : Array Oper} {rest : List Oper} {o : Oper} {a : Act} {w : World} {Q : Exit → Act → World → Prop}
theorem wp_mgRow (hgd : o.guard = none) (s x : Operand) (ho : o.op = .call { callee := .builtin .append, args := #[s, x], argTypes := #[22, 22] }) {w0 : World} {gp gm n i m k T : Nat} {v3 v4 : Value} {t3 : List Nd} {E : List Ent} (h : Mg w0 w gp gm n i m k T v3 v4 t3 E) (hs : a.eval s = v3) (b : Nat) (hx : a.eval x = .slice (some ⟨b, 0, none⟩) 1 1)
    (X : Nd) (hb : w.heap[b]? = some (.cells #[.int .u8 (X.kind : Nat), .string X.name, .string X.value, .int .i64 X.parent] 62)) (hm : m ≤ 10000)
    (hK : ∀ g cap w', w'.ownsRow w0.heap.size 62 4 (.slice (some ⟨g, 0, none⟩) (m + 1) cap) (m + 1) (rowL (t3 ++ [X])) → Vt w0.heap.size w' v4 E → PlAt w' gp n → TxAt w' gm i k → Fr [] w0 w' → Fr v3.ownBlock.toList w w' → wpList Tryz.prog ops Q rest (a.put o.dst (.slice (some ⟨g, 0, none⟩) (m + 1) cap)) w') : wpList Tryz.prog ops Q (o :: rest) a w := by
  obtain ⟨j, hi, hz, hsz, hbb⟩ := infoN'
  have hfr := h.fr.size
  refine wpList_append_lies w hgd s x 22 ho w0.heap.size 62 j _ 4 48 Tryz.underlying22 hi hz hsz hbb rfl (by omega) v3 m (rowL t3) hs h.row ⟨b, 0, none⟩ 1 1 (ndL X) hx (by simp [ndL])
    (by
      intro q u hu
      rw [Addr.add_mid, Nat.zero_add, cell_of_row w b q _ _ _ hb]
      simpa [ndL] using hu) (by intro u hu; simp [ndL] at hu; rcases hu with rfl | rfl | rfl | rfl <;> rfl) (by omega) (by unfold maxLen; omega) (by omega) hfr _ rfl ?_
  intro g cap w' own gr _ _
  have f := fr_row gr
  obtain ⟨r1, r2, r3, r4, r5⟩ := h.grow f own
  exact hK g cap w' r1 r2 r3 r4 r5 f
end
theorem Mg.push {w0 w' wA w'' : World} {gp gm n i m k T g1 : Nat} {v3' v4' : Value} {t3' : List Nd} {E : List Ent} {z : ByteArray} {L : List Nat} (row : w'.ownsRow w0.heap.size 62 4 v3' (m + 1) (rowL t3')) (rl : t3'.length = m + 1) (pl : PlAt w' gp n) (gpB : w0.heap.size ≤ gp) (mp : TxAt w' gm i k) (gmB : w0.heap.size ≤ gm) (fr : Fr [] w0 w') (el : E.length = m) (sum : totE E ≤ T) (mi : m + 1 ≤ i) (cnt : ∀ e ∈ E, e.l.length ≤ i)
    (fA : Fr [] w' wA) (vt : Vt w0.heap.size w'' v4' (E ++ [⟨g1, 1, [z]⟩])) (f : Fr L wA w'') (hL : ∀ j ∈ L, w0.heap.size ≤ j ∧ ∃ cur, wA.heap[j]? = some (.cells cur 66)) : Mg w0 w'' gp gm n i (m + 1) k (T + z.size) v3' v4' t3' (E ++ [⟨g1, 1, [z]⟩]) := by
  have hty : ∀ g ∈ L, ∀ cur t, wA.heap[g]? = some (.cells cur t) → t = 66 := by
    intro g hg cur t e
    obtain ⟨_, c2, e2⟩ := hL g hg
    rw [e] at e2
    cases e2
    rfl
  have plA := pl.kept fA (by simp)
  have mpA := mp.kept fA (by simp)
  obtain ⟨curp, cp, _⟩ := id plA
  refine { row := own_type (own_type row fA (by simp)) f (fun g hg cur t e => by rw [hty g hg cur t e]; decide), rl := rl, vt := vt, el := by simp [el], sum := ?_, pl := plA.kept f (fun hm => ?_), gpB := gpB, mp := mpA.kept f (fun hm => ?_), gmB := gmB, fr := (fr.trans fA).then f (fun q hq hm => ?_), mi := mi, cnt := fun e he => ?_ }
  · rw [totE_app]
    have : totE [⟨g1, 1, [z]⟩] = z.size := by simp [totE, Ent.tot, bl_length]
    omega
  · exact absurd (hty _ hm _ _ cp) (by decide)
  · obtain ⟨_, c2, e2⟩ := hL _ hm
    exact absurd e2 (mpA.notcells _ _)
  · have := (hL q hm).1
    omega
  · rcases List.mem_append.1 he with he | he
    · exact cnt e he
    · simp at he
      subst he
      show 1 ≤ i
      omega
/-- A text joins a row: the table is told. -/
theorem Mg.more {w0 w w' : World} {gp gm n i m k T : Nat} {v3 v4 : Value} {t3 : List Nd} {E : List Ent} (h : Mg w0 w gp gm n i m k T v3 v4 t3 E) (j : Nat) (hj : j < E.length) (z : ByteArray) (g cap : Nat) (own : w'.ownsRow w0.heap.size 9 1 (.slice (some ⟨g, 0, none⟩) (E[j].l.length + 1) cap) (E[j].l.length + 1) (E[j].l.map Value.string ++ [.string z])) (f : Fr (E[j].v).ownBlock.toList w w') (hg : (E[j].v).ownBlock = some g ∨ g = w.heap.size) (t tc : Nat) (hv : v4 = .slice (some ⟨t, 0, none⟩) E.length tc) :
    Mg w0 (w'.setCell ⟨t, j, none⟩ (.slice (some ⟨g, 0, none⟩) (E[j].l.length + 1) cap)) gp gm n (i + 1) m k (T + z.size) v3 v4 t3 (E.set j ⟨g, cap, E[j].l ++ [z]⟩) := by
  obtain ⟨vt, ft⟩ := h.vt.more j hj z g cap own f hg t tc hv
  have hei : E[j] ∈ E := List.getElem_mem _
  have hT1 := own_t h.vt.own
  have hT2 := own_t (h.vt.each _ hei)
  have hty : ∀ g' ∈ t :: (E[j].v).ownBlock.toList, w0.heap.size ≤ g' ∧ ∃ cur ty, w.heap[g']? = some (.cells cur ty) ∧ (ty = 66 ∨ ty = 9) := by
    intro g' hg'
    rcases List.mem_cons.1 hg' with rfl | hg'
    · obtain ⟨h1, cur, h2⟩ := hT1 g' (by rw [hv]; simp [Value.ownBlock])
      exact ⟨h1, cur, _, h2, Or.inl rfl⟩
    · obtain ⟨h1, cur, h2⟩ := hT2 g' hg'
      exact ⟨h1, cur, _, h2, Or.inr rfl⟩
  have hne : ∀ (e : TypeId), e ≠ 66 → e ≠ 9 → ∀ g' ∈ t :: (E[j].v).ownBlock.toList, ∀ cur ty, w.heap[g']? = some (.cells cur ty) → ty ≠ e := by
    intro e e1 e2 g' hg' cur ty hc
    obtain ⟨_, c2, t2, h2, h3⟩ := hty g' hg'
    rw [hc] at h2
    cases h2
    rcases h3 with rfl | rfl
    · exact fun x => e1 x.symm
    · exact fun x => e2 x.symm
  obtain ⟨curp, cp, _⟩ := id h.pl
  refine { h with row := own_type h.row ft (hne _ (by decide) (by decide)), vt := vt, el := by rw [List.length_set]; exact h.el, sum := ?_, pl := h.pl.kept ft (fun hm => ?_), mp := (h.mp.mono (Nat.le_succ i) (Nat.le_refl k)).kept ft (fun hm => ?_), fr := h.fr.then ft (fun q hq hm => ?_), mi := Nat.le_succ_of_le h.mi, cnt := fun e he => ?_ }
  · have ht := totE_set E j ⟨g, cap, E[j].l ++ [z]⟩ hj z.size (tot_snoc g cap E[j].b E[j].c E[j].l z)
    rw [ht]
    have := h.sum
    omega
  · exact hne 3 (by decide) (by decide) _ hm _ _ cp rfl
  · obtain ⟨_, c2, t2, h2, _⟩ := hty _ hm
    exact absurd h2 (h.mp.notcells _ _)
  · have := (hty q hm).1
    omega
  · rcases List.mem_or_eq_of_mem_set he with he | he
    · have := h.cnt e he
      omega
    · subst he
      have := h.cnt _ hei
      simp only [List.length_append, List.length_cons, List.length_nil]
      omega

/-! ### a node's Value, in the row -/
def setV (t : List Nd) (i : Nat) (s : ByteArray) : List Nd := t.set i ⟨knd t i, nam t i, s, par t i⟩
theorem setV_len (t : List Nd) (i : Nat) (s : ByteArray) : (setV t i s).length = t.length := by simp [setV]
theorem setV_nth (t : List Nd) (i j : Nat) (s : ByteArray) (h : i < t.length) : nth (setV t i s) j = if i = j then ⟨knd t i, nam t i, s, par t i⟩ else nth t j := by
  unfold nth setV
  by_cases e : i = j
  · subst e
    simp [h]
  · simp [List.getD_eq_getElem?_getD, e]
theorem setV_row (t : List Nd) (i : Nat) (s : ByteArray) (h : i < t.length) : rowL (setV t i s) = (rowL t).set (i * 4 + 2) (.string s) := by
  refine List.ext_getElem? fun j => ?_
  by_cases hj : j < t.length * 4
  · have e : j = j / 4 * 4 + j % 4 := by omega
    have hq : j / 4 < t.length := by omega
    rw [List.getElem?_set, rowL_len]
    rw [e, rowL_at (setV t i s) (j / 4) (j % 4) (by omega) (by rw [setV_len]; exact hq), rowL_at t (j / 4) (j % 4) (by omega) hq, setV_nth _ _ _ _ h]
    by_cases hi : i = j / 4
    · rw [if_pos hi]
      subst hi
      have h4 : j % 4 = 0 ∨ j % 4 = 1 ∨ j % 4 = 2 ∨ j % 4 = 3 := by omega
      rcases h4 with r | r | r | r <;> rw [r]
      · rw [if_neg (by omega)]; rfl
      · rw [if_neg (by omega)]; rfl
      · rw [if_pos rfl, if_pos (by omega)]; rfl
      · rw [if_neg (by omega)]; rfl
    · rw [if_neg hi, if_neg (by omega)]
  · rw [List.getElem?_eq_none (by rw [rowL_len, setV_len]; omega), List.getElem?_eq_none (by rw [List.length_set, rowL_len]; omega)]
theorem row_set {B : Nat} {w : World} {g n cap : Nat} {t : List Nd} (h : w.ownsRow B 62 4 (.slice (some ⟨g, 0, none⟩) n cap) n (rowL t)) (hn : t.length = n) (i : Nat) (hi : i < n) (s : ByteArray) :
    (w.setCell ⟨g, i * 4 + 2, none⟩ (.string s)).ownsRow B 62 4 (.slice (some ⟨g, 0, none⟩) n cap) n (rowL (setV t i s)) := by
  obtain ⟨h1, h2⟩ := h
  refine ⟨by rw [rowL_len, setV_len, hn], ?_⟩
  rcases h2 with ⟨e, hn'⟩ | ⟨g', cap', cur, e, hb, hg, hnc, hcm, hcs, ht⟩
  · cases e
  · cases e
    refine Or.inr ⟨g, cap, cur.setIfInBounds (i * 4 + 2) (.string s), rfl, hb, heap_setCell_same w g _ _ _ _ hg, hnc, hcm, by simpa using hcs, ?_⟩
    rw [setV_row t i s (by omega), ← ht, Array.toList_setIfInBounds, List.take_set]
theorem row_cell {B : Nat} {w : World} {v : Value} {n : Nat} {t : List Nd} (h : w.ownsRow B 62 4 v n (rowL t)) (i : Nat) (hi : i < n) : ∃ g cap, v = .slice (some ⟨g, 0, none⟩) n cap ∧ (∃ u, w.cell? ⟨g, i * 4 + 2, none⟩ = some u) ∧ w.frozen? ⟨g, i * 4 + 2, none⟩ = false ∧ B ≤ g ∧ ∃ cur, w.heap[g]? = some (.cells cur 62) := by
  obtain ⟨h1, h2⟩ := h
  rcases h2 with ⟨e, hn'⟩ | ⟨g, cap, cur, e, hb, hg, hnc, hcm, hcs, ht⟩
  · omega
  · refine ⟨g, cap, e, ?_, frozen_of_row w g _ _ _ hg, hb, cur, hg⟩
    have hx : i * 4 + 2 < cur.size := by omega
    exact ⟨cur[i * 4 + 2], by rw [cell_of_row w g _ _ _ _ hg, Array.getElem?_eq_getElem hx]⟩
end Go.Proofs.YtdfgmdddnehocabGreatDoor

namespace Go.Proofs.YtdfgmdddnehocabGreatDoor
open Go.RowKit Go.Maps Go.Lib

theorem Mg.kept1 {w0 w w' : World} {gp gm n i m k T ga : Nat} {v3 v4 : Value} {t3 : List Nd} {E : List Ent} {cs : Array Value} (h : Mg w0 w gp gm n i m k T v3 v4 t3 E) (f : Fr [ga] w w') (hga : ga ∉ v3.ownBlock.toList) (hc : w.heap[ga]? = some (.cells cs 62)) (hB : w0.heap.size ≤ ga) : Mg w0 w' gp gm n i m k T v3 v4 t3 E := by
  have hty : ∀ g ∈ [ga], ∀ cur t, w.heap[g]? = some (.cells cur t) → t = 62 := by
    intro g hg cur t e
    simp at hg
    subst hg
    rw [hc] at e
    cases e
    rfl
  obtain ⟨curp, cp, _⟩ := id h.pl
  refine { h with row := own_blk h.row f (fun g hg hm => ?_), vt := h.vt.kept f (fun g hg cur t e => by rw [hty g hg cur t e]; exact ⟨by decide, by decide⟩), pl := h.pl.kept f (fun hm => ?_), mp := h.mp.kept f (fun hm => ?_), fr := h.fr.then f (fun q hq hm => ?_) }
  · simp at hm
    subst hm
    exact hga (by simp [hg])
  · exact absurd (hty _ hm _ _ cp) (by decide)
  · simp at hm
    subst hm
    exact h.mp.notcells _ _ hc
  · simp at hm
    omega
theorem Cells.set3 {w : World} {g k : Nat} {n v : ByteArray} {p : Int} (h : Cells w g 62 (ndC k n v p)) (x : Int) : Cells (w.setCell ⟨g, 3, none⟩ (.int .i64 x)) g 62 (ndC k n v x) := heap_setCell_same w g 3 _ _ _ h
theorem Vt.tab {B : Nat} {w w' : World} {v : Value} {E : List Ent} (h : Vt B w v E) (j : Nat) (hj : j < E.length) (f : Fr (E[j].v).ownBlock.toList w w') (t tc : Nat) (hv : v = .slice (some ⟨t, 0, none⟩) E.length tc) : w'.cell? ⟨t, j, none⟩ = some (E[j].v) ∧ w'.frozen? ⟨t, j, none⟩ = false := by
  have hei : E[j] ∈ E := List.getElem_mem _
  have own := own_type h.own f (fun g hg cur ty e => by
    obtain ⟨_, c2, e2⟩ := own_t (h.each _ hei) g hg
    rw [e] at e2
    cases e2
    decide)
  rcases own.2 with ⟨_, h0⟩ | ⟨g, cap, cur, hv', hb, hg, hcap, hmx, hsz, htk⟩
  · omega
  · rw [hv] at hv'
    cases hv'
    refine ⟨?_, frozen_of_row w' t j _ _ hg⟩
    rw [cell_of_row w' t j _ _ _ hg]
    have h2 : (E.map Ent.v)[j]? = some (E[j].v) := by simp [hj]
    rw [← h2, ← htk, List.getElem?_take]
    simp
    intro hh
    omega
theorem at_new (w : World) (o : Obj) (N : Nat) (hN : w.heap.size = N) : (w.alloc o).heap[N]? = some o := by
  subst hN
  exact heap_alloc_new w o
theorem size_new (w : World) (o : Obj) : (w.alloc o).heap.size = w.heap.size + 1 := Array.size_push ..
section
variable {ops : Array Oper} {rest : List Oper} {o : Oper} {a : Act} {w : World} {Q : Exit → Act → World → Prop}
/-- A new row of one text, in a world that has just made it. -/
theorem wp_vtPushM (hgd : o.guard = none) (s x : Operand) (ho : o.op = .call { callee := .builtin .append, args := #[s, x], argTypes := #[43, 43] }) {w0 w6 : World} {gp gm n i m k T N1 : Nat} {v3' v4 : Value} {t3' : List Nd} {E : List Ent} {z : ByteArray} (hs : a.eval s = v4) (hx : a.eval x = .slice (some ⟨N1, 0, none⟩) 1 1)
    (hw : w = (w6.alloc (.cells #[.string z] 9)).alloc (.cells #[.slice (some ⟨w6.heap.size, 0, none⟩) 1 1] 66)) (hN1 : w6.heap.size + 1 = N1)
    (row : w6.ownsRow w0.heap.size 62 4 v3' (m + 1) (rowL t3')) (rl : t3'.length = m + 1) (vt : Vt w0.heap.size w6 v4 E) (pl : PlAt w6 gp n) (gpB : w0.heap.size ≤ gp) (mp : TxAt w6 gm i k) (gmB : w0.heap.size ≤ gm) (fr : Fr [] w0 w6) (el : E.length = m) (sum : totE E ≤ T) (mi : m + 1 ≤ i) (cnt : ∀ e ∈ E, e.l.length ≤ i) (hm : m ≤ 10000)
    (h : ∀ g c' w', Mg w0 w' gp gm n i (m + 1) k (T + z.size) v3' (.slice (some ⟨g, 0, none⟩) (m + 1) c') t3' (E ++ [⟨w6.heap.size, 1, [z]⟩]) → wpList Tryz.prog ops Q rest (a.put o.dst (.slice (some ⟨g, 0, none⟩) (m + 1) c')) w') : wpList Tryz.prog ops Q (o :: rest) a w := by
  subst hw hN1 el
  have fA : Fr [] w6 ((w6.alloc (.cells #[.string z] 9)).alloc (.cells #[.slice (some ⟨w6.heap.size, 0, none⟩) 1 1] 66)) := ((Fr.refl [] w6).alloc _).alloc _
  have hz := fr.size
  refine wp_vtPush hgd s x ho w0.heap.size v4 E (w6.heap.size + 1) w6.heap.size z hs hx (vt.kept fA (by simp)) (at_new _ _ _ (size_new _ _)) (((Fr.refl [] _).alloc _).same (by simp) (heap_alloc_new w6 _)) hz (fun e he => by have := vt.lt e he; omega) (Nat.le_trans hz fA.size) (by omega) ?_
  intro g c' w' L vt' f hL
  exact h g c' w' (Mg.push row rl pl gpB mp gmB fr rfl sum mi cnt fA vt' f hL)
end
end Go.Proofs.YtdfgmdddnehocabGreatDoor

namespace Go.Proofs.YtdfgmdddnehocabGreatDoor
open Go.RowKit Go.Maps Go.Lib

theorem vsum_le (t : List Nd) : ∀ {i j : Nat}, i ≤ j → vsum t i ≤ vsum t j
  | i, 0, h => by
    obtain rfl : i = 0 := by omega
    exact Nat.le_refl _
  | i, j + 1, h => by
    by_cases e : i = j + 1
    · subst e; exact Nat.le_refl _
    · have := vsum_le t (show i ≤ j by omega)
      simp only [vsum]
      omega
set_option maxHeartbeats 8000000 in
set_option maxRecDepth 100000 in
theorem Merge_any (w : World) (ad : Option Addr) (n c : Nat) (t : List Nd) (hn : t.length = n) (hN : NodesAt w ad t) (hS : Sane t) (hl : n ≤ 1000) (hT : vsum t n ≤ 140737488355328) :
    Calls Tryz.prog 8 #[.slice ad n c] w fun e w' => ∃ v t', e = .returned v ∧ Nodes w w' v t' ∧ t'.length ≤ n ∧ Fr [] w w' := by
  have HN := Hid.mk hn
  have HA := Hid.mk hN
  have HS := Hid.mk hS
  have HT := Hid.mk hT
  have hl' : ¬ (16384 : Int) < (n : Int) := by omega
  have hmm := @run_makeMap Tryz.prog
  clear hn hN hS hT
  go_enter Tryz.func8, Tryz.ntmps8
  go_wp2_with fail
  refine (inOrder_any w ad n c t HN.out HA.out (by omega)).mono ?_
  rintro e w1 ⟨ob, rfl, hO, f1⟩
  cases ob with
  | false =>
    go_wp2_with fail
    go_ret
    exact ⟨_, [], rfl, World.ownsRow_nil _ _ _ 4, by simp, f1⟩
  | true =>
    have HO := Hid.mk (hO rfl)
    clear hO
    go_wp2_with (refine wp_makePl rfl _ _ rfl n rfl rfl (by omega) ?_; intro w2 gp hgp pl2 f2)
    have f02 : Fr [] w w2 := f1.trans f2
    have M0 : Hid (Mg w (w2.alloc (.map #[] 0)) gp w2.heap.size n 0 0 0 (vsum t 0) (.slice none 0 0) (.slice none 0 0) [] []) := Hid.mk
      { row := World.ownsRow_nil _ _ _ 4, rl := rfl, vt := Vt.nil _ _, el := rfl, sum := Nat.le_refl _, pl := pl2.kept ((Fr.refl [] w2).alloc _) (by simp), gpB := Nat.le_trans f1.size hgp, mp := TxAt.made w2, gmB := f02.size, fr := f02.alloc _, mi := Nat.le_refl _, cnt := fun _ he => (nomatch he) }
    clear pl2 f2 hgp f02
    obtain ⟨gm, HGM⟩ : ∃ gm, Hid (w2.heap.size = gm) := ⟨_, Hid.mk rfl⟩
    rw [HGM.out] at M0
    rw [HGM.out]
    go_loopw [27, 3, 4] (fun s27 s3 s4 wr => ∃ (i m : Nat) (t3 : List Nd) (E : List Ent) (a3 : Option Addr) (c3 : Nat) (a4 : Option Addr) (c4 : Nat), i ≤ n ∧ s27 = .int .i64 (i : Int) ∧ s3 = .slice a3 m c3 ∧ s4 = .slice a4 m c4 ∧ Hid (Mg w wr gp gm n i m m (vsum t i) (.slice a3 m c3) (.slice a4 m c4) t3 E)) (fun s27 _ _ _ => n - (RowKit.intOf s27).toNat)
    case atStart => exact ⟨0, 0, [], [], none, 0, none, 0, by omega, rfl, rfl, rfl, M0⟩
    case round =>
      obtain ⟨i, m, t3, E, a3, c3, a4, c4, hi, rfl, rfl, rfl, MG⟩ := hrel
      clear M0
      have hm1 : m ≤ i := MG.out.mi
      have hm0 : (0 : Int) ≤ (m : Int) := by omega
      by_cases hlt : i < n
      · have hlt' : (i : Int) < (n : Int) := by omega
        have hi0 : (0 : Int) ≤ (i : Int) := by omega
        have hit : i < t.length := by rw [HN.out]; exact hlt
        obtain ⟨b, off, rfl, k0, k1, k2, k3⟩ := (HA.out.kept MG.out.fr) i hit
        obtain ⟨p0, p1, -⟩ := HO.out i hlt
        have HV : Hid (vsum t (i + 1) = vsum t i + (vlu t i).size) := Hid.mk rfl
        have IA : Hid (∀ w', Fr [] wr w' → Calls Tryz.prog 22 #[.slice (some ⟨b, off, none⟩) n c, .int .i64 (i : Int)] w' fun e w'' => e = .returned (.bool (aboveB t i)) ∧ w'' = w') := Hid.mk (fun w' f => isAbove_any w' _ n c t HN.out (HA.out.kept (MG.out.fr.trans f)) (by omega) i hlt)
        obtain ⟨K, HK⟩ : ∃ K, Hid (knd t i = K) := ⟨_, Hid.mk rfl⟩
        obtain ⟨NM, HNM⟩ : ∃ K, Hid (nam t i = K) := ⟨_, Hid.mk rfl⟩
        obtain ⟨VL, HVL⟩ : ∃ K, Hid (vlu t i = K) := ⟨_, Hid.mk rfl⟩
        obtain ⟨p, HP⟩ : ∃ K, Hid (par t i = K) := ⟨_, Hid.mk rfl⟩
        obtain ⟨AB, HAB⟩ : ∃ K, Hid (aboveB t i = K) := ⟨_, Hid.mk rfl⟩
        rw [HK.out] at k0
        rw [HNM.out] at k1
        rw [HVL.out] at k2 HV
        rw [HP.out] at k3 p0 p1
        rw [HAB.out] at IA
        have hwp : (Lit.int .i64 p).wf = true := WalkArith.wf_i64 (by omega)
        have hgl := MG.out.plt
        have hgp1 : gp < wr.heap.size := hgl.1
        have hgm1 : gm < wr.heap.size := hgl.2.1
        clear hgl HNM HP HAB
        by_cases h4 : K = 4
        · subst h4
          cases AB with
          | false =>
            cases hv : VL.toList.isEmpty with
            | true =>
              go_wp2_with (first
                | (refine wp_alloc 62 rfl rfl _ zeroN _ rfl ?_; intro wa ga hga hca fa)
                | (refine wp_storeC 62 rfl _ _ rfl ga _ (ndC 4 NM VL p) rfl rfl hca infoN rfl (ndC_one _ _ _ _) ?_; intro wb hcb fb; have frb : Fr [] wr wb := fa.then fb (fun j hj hm => (by simp at hm; omega)); have mgb := Hid.mk (MG.out.kept0 frb); have n0 : wb.cell? ⟨ga, 0, none⟩ = some (.int .u8 ((4 : Nat) : Int)) := hcb.cell 0; have n2 : wb.cell? ⟨ga, 2, none⟩ = some (.string VL) := hcb.cell 2; have n3 : wb.cell? ⟨ga, 3, none⟩ = some (.int .i64 p) := hcb.cell 3; have HCB := Hid.mk hcb; clear hca fa fb hcb)
                | (go_at_call 22; refine (IA.out _ frb).mono ?_; rintro e wz ⟨rfl, hz⟩; rw [hz]; clear hz))
              exact ⟨⟨i + 1, m, t3, E, a3, c3, a4, c4, by omega, by go_num, rfl, rfl, Hid.mk (mgb.out.on (by omega) (by omega) (by rw [HV.out]; omega))⟩, by simp [RowKit.intOf]; omega⟩
            | false =>
              by_cases hp : 0 ≤ p
              · obtain ⟨P, rfl⟩ : ∃ P : Nat, p = (P : Int) := ⟨p.toNat, by omega⟩
                have hP0 : (0 : Int) ≤ (P : Int) := by omega
                have hPn : (P : Int) < (n : Int) := by omega
                go_wp2_with (first
                  | (refine wp_alloc 62 rfl rfl _ zeroN _ rfl ?_; intro wa ga hga hca fa)
                  | (refine wp_storeC 62 rfl _ _ rfl ga _ (ndC 4 NM VL (P : Int)) rfl rfl hca infoN rfl (ndC_one _ _ _ _) ?_; intro wb hcb fb; have frb : Fr [] wr wb := fa.then fb (fun j hj hm => (by simp at hm; omega)); have mgb := Hid.mk (MG.out.kept0 frb); have n0 : wb.cell? ⟨ga, 0, none⟩ = some (.int .u8 ((4 : Nat) : Int)) := hcb.cell 0; have n2 : wb.cell? ⟨ga, 2, none⟩ = some (.string VL) := hcb.cell 2; have n3 : wb.cell? ⟨ga, 3, none⟩ = some (.int .i64 (P : Int)) := hcb.cell 3; have HCB := Hid.mk hcb; clear hca fa fb hcb)
                  | (go_at_call 22; refine (IA.out _ frb).mono ?_; rintro e wz ⟨rfl, hz⟩; rw [hz]; clear hz)
                  | (refine wp_txLook rfl _ _ rfl gm i m (P : Int) rfl mgb.out.mp rfl hwp ?_; intro cc is his; obtain ⟨xp, cp, -, -, zp⟩ := mgb.out.pl.cell i hlt; obtain ⟨we, hwe⟩ : ∃ we, wb.setCell ⟨gp, i, none⟩ (.int .i64 (m : Int)) = we := ⟨_, rfl⟩; have mge := Hid.mk (hwe ▸ mgb.out.place i (m : Int) (by omega) (by omega)); have fbe : Fr [gp] wb we := hwe ▸ ((Fr.refl [gp] wb).setCell _ _ (by simp)); have w0c : we.cell? ⟨ga, 0, none⟩ = some (.int .u8 ((4 : Nat) : Int)) := (HCB.out.kept fbe (by simp; omega)).cell 0; have w3c : we.cell? ⟨ga, 3, none⟩ = some (.int .i64 (P : Int)) := (HCB.out.kept fbe (by simp; omega)).cell 3)
                  | (refine wp_txPut rfl _ _ _ rfl gm i m (m + 1) (P : Int) (m : Int) rfl mge.out.mp (by unfold maxLen; omega) rfl rfl hwp (by omega) (by omega) (by omega) (by omega) ?_; intro wd txd fd; have MGD := Hid.mk (mge.out.map fd txd (by omega)); have fbd : Fr [gp, gm] wb wd := (fbe.mono (M := [gp, gm]) (fun q _ h => (by simp at h; simp [h]))).trans (fd.mono (fun q _ h => (by simp at h; simp [h]))); have HCD := Hid.mk (HCB.out.kept fbd (by simp; omega)); have d0 : wd.cell? ⟨ga, 0, none⟩ = some (.int .u8 ((4 : Nat) : Int)) := HCD.out.cell 0; have d1 : wd.cell? ⟨ga, 1, none⟩ = some (.string NM) := HCD.out.cell 1; have d2 : wd.cell? ⟨ga, 2, none⟩ = some (.string VL) := HCD.out.cell 2; have d3 : wd.cell? ⟨ga, 3, none⟩ = some (.int .i64 (P : Int)) := HCD.out.cell 3; have hgaR : Hid (ga ∉ (Value.slice a3 m c3).ownBlock.toList) := Hid.mk (fun hm => (by have := MG.out.rowlt _ hm; omega)); have hgaB : w.heap.size ≤ ga := Nat.le_trans MG.out.fr.size hga; have e3 := frozen_of_row wd ga 3 _ _ HCD.out; obtain ⟨xq, cq, hq0, hq1, -⟩ := MGD.out.pl.cell P (by omega); obtain ⟨wv, hwv⟩ : ∃ wv, wd.setCell ⟨ga, 3, none⟩ (.int .i64 xq) = wv := ⟨_, rfl⟩; have fv : Fr [ga] wd wv := hwv ▸ ((Fr.refl [ga] wd).setCell _ _ (by simp)); have HCV : Hid (Cells wv ga 62 (ndC 4 NM VL xq)) := Hid.mk (hwv ▸ HCD.out.set3 xq); have MGV := Hid.mk (MGD.out.kept1 fv hgaR.out HCD.out hgaB); have u0 : wv.cell? ⟨ga, 0, none⟩ = some (.int .u8 ((4 : Nat) : Int)) := HCV.out.cell 0; have u1 : wv.cell? ⟨ga, 1, none⟩ = some (.string NM) := HCV.out.cell 1; have u2 : wv.cell? ⟨ga, 2, none⟩ = some (.string VL) := HCV.out.cell 2; have u3 : wv.cell? ⟨ga, 3, none⟩ = some (.int .i64 xq) := HCV.out.cell 3)
                  | (refine wp_mgRow rfl _ _ rfl (MGV.out.kept0 ((Fr.refl [] wv).alloc _)) rfl wv.heap.size rfl ⟨4, NM, VL, xq⟩ (heap_alloc_new wv _) (by omega) ?_; intro g6 cap6 w6 row6 vt6 pl6 tx6 fr6 f6; have v2 : w6.cell? ⟨ga, 2, none⟩ = some (.string VL) := ((HCV.out.kept ((Fr.refl [] wv).alloc _) (by simp)).kept f6 hgaR.out).cell 2; have ROW := Hid.mk row6; have VTS := Hid.mk vt6; have PLS := Hid.mk pl6; have TXS := Hid.mk tx6; have FRS := Hid.mk fr6; clear row6 vt6 pl6 tx6 fr6 f6)
                  | (refine wp_vtPushM rfl _ _ rfl rfl rfl rfl rfl ROW.out (by rw [List.length_append, MG.out.rl]; rfl) VTS.out PLS.out MG.out.gpB TXS.out MG.out.gmB FRS.out MG.out.el MG.out.sum (by omega) (fun e he => Nat.le_succ_of_le (MG.out.cnt e he)) (by omega) ?_; intro g7 c7 w7 MGE))
                · have hcc := his (by assumption)
                  obtain ⟨J, rfl⟩ : ∃ J : Nat, cc = (J : Int) := ⟨cc.toNat, by omega⟩
                  have hJ : J < E.length := by rw [mgb.out.el]; omega
                  obtain ⟨tg, tcap, hv4, ct, zt, htB⟩ := mgb.out.vt.at J hJ
                  have hei : Hid (E[J] ∈ E) := Hid.mk (List.getElem_mem _)
                  have OJ := Hid.mk (mgb.out.vt.each _ hei.out)
                  have HV4 := Hid.mk hv4
                  obtain ⟨rfl, hmE, rfl⟩ : a4 = some ⟨tg, 0, none⟩ ∧ m = E.length ∧ c4 = tcap := by simpa using hv4
                  have HME := Hid.mk hmE
                  clear hv4 hmE
                  have ct' : wb.cell? ⟨tg, J, none⟩ = some (.slice (some ⟨E[J].b, 0, none⟩) E[J].l.length E[J].c) := ct
                  clear ct
                  have hJ0 : (0 : Int) ≤ (J : Int) := by omega
                  have hJ1 : (J : Int) < (m : Int) := by omega
                  have hJc : Hid (E[J].l.length ≤ i) := Hid.mk (mgb.out.cnt _ hei.out)
                  have hJv : E[J].v = .slice (some ⟨E[J].b, 0, none⟩) E[J].l.length E[J].c := rfl
                  obtain ⟨eb, heb⟩ : ∃ eb, E[J].b = eb := ⟨_, rfl⟩
                  obtain ⟨ln, hln⟩ : ∃ ln, E[J].l.length = ln := ⟨_, rfl⟩
                  obtain ⟨ec, hec⟩ : ∃ ec, E[J].c = ec := ⟨_, rfl⟩
                  have HJV : Hid (E[J].v = .slice (some ⟨eb, 0, none⟩) ln ec) := Hid.mk (by rw [hJv, heb, hln, hec])
                  have HLN := Hid.mk hln
                  rw [heb, hln, hec] at ct'
                  clear hJv heb hln hec
                  obtain ⟨i9, hi9, hz9, hs9, hb9⟩ := info9'
                  have FA : Hid (Fr [] wb (wb.drew.alloc (.cells #[.string VL] 9))) := Hid.mk ((Fr.refl [] wb).drew.alloc _)
                  have OA : Hid ((wb.drew.alloc (.cells #[.string VL] 9)).ownsRow w.heap.size 9 1 (.slice (some ⟨eb, 0, none⟩) ln ec) ln (E[J].l.map Value.string)) := Hid.mk (by rw [← HJV.out, ← HLN.out]; exact own_type OJ.out FA.out (by simp))
                  have hbase : w.heap.size ≤ (wb.drew.alloc (.cells #[.string VL] 9)).heap.size := Nat.le_trans (mgb.out.fr.size) FA.out.size
                  have IE := Hid.mk (mgb.out.kept0 FA.out)
                  have ctA : (wb.alloc (.cells #[.string VL] 9)).cell? ⟨tg, J, none⟩ = some (.slice (some ⟨eb, 0, none⟩) ln ec) := (World.cell?_of_block (((Fr.refl [] wb).alloc (.cells #[.string VL] 9)).block tg (block_lt_of_cell ct') (by simp))).trans ct'
                  clear n0 n3
                  go_region_law (refine step_append_lies _ rfl (.tmp 63) (.tmp 66) 66 rfl w.heap.size 9 i9 (.string ⟨#[]⟩) 1 16 Tryz.underlying66 hi9 hz9 hs9 hb9 rfl (by omega) (.slice (some ⟨eb, 0, none⟩) ln ec) ln (E[J].l.map Value.string) rfl OA.out ⟨wb.heap.size, 0, none⟩ 1 1 [.string VL] rfl rfl (by intro q u hu; cases q with | zero => (simp at hu; subst hu; rw [Addr.add_mid]; exact cell_of_row _ _ 0 _ _ _ (heap_alloc_new wb.drew _)) | succ q => simp at hu) (by intro u hu; simp at hu; subst hu; rfl) (by omega) (by have := HLN.out; have := hJc.out; unfold maxLen; omega) (by have := HLN.out; have := hJc.out; omega) hbase _ rfl ?_; intro g9 cap9 w9 own9 gr9 hg9 lt9; obtain ⟨ct9, zt9⟩ := IE.out.vt.tab J hJ (by rw [HJV.out]; exact fr_row gr9) tg c4 (by rw [← HME.out]); rw [HJV.out] at ct9)
                  all_goals
                    go_wp2_with fail
                    exact ⟨⟨i + 1, m, t3, _, a3, c3, _, c4, by omega, by go_num, rfl, rfl, Hid.mk (by
                      have hq := IE.out.more J hJ VL g9 cap9 (by rw [HLN.out]; exact own9) (by rw [HJV.out]; exact fr_row gr9) (by rw [HJV.out]; exact hg9) tg c4 (by rw [← HME.out])
                      rw [HLN.out] at hq
                      rw [HV.out]
                      exact hq)⟩, by simp [RowKit.intOf]; omega⟩
                · exact ⟨⟨i + 1, m + 1, _, _, _, _, _, _, by omega, by go_num, rfl, rfl, Hid.mk (by rw [HV.out]; exact MGE)⟩, by simp [RowKit.intOf]; omega⟩
              · have hpn : ¬ (0 : Int) ≤ p := by omega
                have hpn' : p < 0 := by omega
                go_wp2_with (first
                  | (refine wp_alloc 62 rfl rfl _ zeroN _ rfl ?_; intro wa ga hga hca fa)
                  | (refine wp_storeC 62 rfl _ _ rfl ga _ (ndC 4 NM VL p) rfl rfl hca infoN rfl (ndC_one _ _ _ _) ?_; intro wb hcb fb; have frb : Fr [] wr wb := fa.then fb (fun j hj hm => (by simp at hm; omega)); have mgb := Hid.mk (MG.out.kept0 frb); have n0 : wb.cell? ⟨ga, 0, none⟩ = some (.int .u8 ((4 : Nat) : Int)) := hcb.cell 0; have n2 : wb.cell? ⟨ga, 2, none⟩ = some (.string VL) := hcb.cell 2; have n3 : wb.cell? ⟨ga, 3, none⟩ = some (.int .i64 p) := hcb.cell 3; have HCB := Hid.mk hcb; clear hca fa fb hcb)
                  | (go_at_call 22; refine (IA.out _ frb).mono ?_; rintro e wz ⟨rfl, hz⟩; rw [hz]; clear hz)
                  | (refine wp_txLook rfl _ _ rfl gm i m p rfl mgb.out.mp rfl hwp ?_; intro cc is his; obtain ⟨xp, cp, -, -, zp⟩ := mgb.out.pl.cell i hlt; obtain ⟨we, hwe⟩ : ∃ we, wb.setCell ⟨gp, i, none⟩ (.int .i64 (m : Int)) = we := ⟨_, rfl⟩; have mge := Hid.mk (hwe ▸ mgb.out.place i (m : Int) (by omega) (by omega)); have fbe : Fr [gp] wb we := hwe ▸ ((Fr.refl [gp] wb).setCell _ _ (by simp)); have w0c : we.cell? ⟨ga, 0, none⟩ = some (.int .u8 ((4 : Nat) : Int)) := (HCB.out.kept fbe (by simp; omega)).cell 0; have w3c : we.cell? ⟨ga, 3, none⟩ = some (.int .i64 p) := (HCB.out.kept fbe (by simp; omega)).cell 3)
                  | (refine wp_txPut rfl _ _ _ rfl gm i m (m + 1) p (m : Int) rfl mge.out.mp (by unfold maxLen; omega) rfl rfl hwp (by omega) (by omega) (by omega) (by omega) ?_; intro wd txd fd; have MGD := Hid.mk (mge.out.map fd txd (by omega)); have fbd : Fr [gp, gm] wb wd := (fbe.mono (M := [gp, gm]) (fun q _ h => (by simp at h; simp [h]))).trans (fd.mono (fun q _ h => (by simp at h; simp [h]))); have HCD := Hid.mk (HCB.out.kept fbd (by simp; omega)); have d0 : wd.cell? ⟨ga, 0, none⟩ = some (.int .u8 ((4 : Nat) : Int)) := HCD.out.cell 0; have d1 : wd.cell? ⟨ga, 1, none⟩ = some (.string NM) := HCD.out.cell 1; have d2 : wd.cell? ⟨ga, 2, none⟩ = some (.string VL) := HCD.out.cell 2; have d3 : wd.cell? ⟨ga, 3, none⟩ = some (.int .i64 p) := HCD.out.cell 3; have hgaR : Hid (ga ∉ (Value.slice a3 m c3).ownBlock.toList) := Hid.mk (fun hm => (by have := MG.out.rowlt _ hm; omega)); have hgaB : w.heap.size ≤ ga := Nat.le_trans MG.out.fr.size hga; have MGV := MGD; have HCV := HCD)
                  | (refine wp_mgRow rfl _ _ rfl (MGV.out.kept0 ((Fr.refl [] wd).alloc _)) rfl wd.heap.size rfl ⟨4, NM, VL, p⟩ (heap_alloc_new wd _) (by omega) ?_; intro g6 cap6 w6 row6 vt6 pl6 tx6 fr6 f6; have v2 : w6.cell? ⟨ga, 2, none⟩ = some (.string VL) := ((HCV.out.kept ((Fr.refl [] wd).alloc _) (by simp)).kept f6 hgaR.out).cell 2; have ROW := Hid.mk row6; have VTS := Hid.mk vt6; have PLS := Hid.mk pl6; have TXS := Hid.mk tx6; have FRS := Hid.mk fr6; clear row6 vt6 pl6 tx6 fr6 f6)
                  | (refine wp_vtPushM rfl _ _ rfl rfl rfl rfl rfl ROW.out (by rw [List.length_append, MG.out.rl]; rfl) VTS.out PLS.out MG.out.gpB TXS.out MG.out.gmB FRS.out MG.out.el MG.out.sum (by omega) (fun e he => Nat.le_succ_of_le (MG.out.cnt e he)) (by omega) ?_; intro g7 c7 w7 MGE))
                · have hcc := his (by assumption)
                  obtain ⟨J, rfl⟩ : ∃ J : Nat, cc = (J : Int) := ⟨cc.toNat, by omega⟩
                  have hJ : J < E.length := by rw [mgb.out.el]; omega
                  obtain ⟨tg, tcap, hv4, ct, zt, htB⟩ := mgb.out.vt.at J hJ
                  have hei : Hid (E[J] ∈ E) := Hid.mk (List.getElem_mem _)
                  have OJ := Hid.mk (mgb.out.vt.each _ hei.out)
                  have HV4 := Hid.mk hv4
                  obtain ⟨rfl, hmE, rfl⟩ : a4 = some ⟨tg, 0, none⟩ ∧ m = E.length ∧ c4 = tcap := by simpa using hv4
                  have HME := Hid.mk hmE
                  clear hv4 hmE
                  have ct' : wb.cell? ⟨tg, J, none⟩ = some (.slice (some ⟨E[J].b, 0, none⟩) E[J].l.length E[J].c) := ct
                  clear ct
                  have hJ0 : (0 : Int) ≤ (J : Int) := by omega
                  have hJ1 : (J : Int) < (m : Int) := by omega
                  have hJc : Hid (E[J].l.length ≤ i) := Hid.mk (mgb.out.cnt _ hei.out)
                  have hJv : E[J].v = .slice (some ⟨E[J].b, 0, none⟩) E[J].l.length E[J].c := rfl
                  obtain ⟨eb, heb⟩ : ∃ eb, E[J].b = eb := ⟨_, rfl⟩
                  obtain ⟨ln, hln⟩ : ∃ ln, E[J].l.length = ln := ⟨_, rfl⟩
                  obtain ⟨ec, hec⟩ : ∃ ec, E[J].c = ec := ⟨_, rfl⟩
                  have HJV : Hid (E[J].v = .slice (some ⟨eb, 0, none⟩) ln ec) := Hid.mk (by rw [hJv, heb, hln, hec])
                  have HLN := Hid.mk hln
                  rw [heb, hln, hec] at ct'
                  clear hJv heb hln hec
                  obtain ⟨i9, hi9, hz9, hs9, hb9⟩ := info9'
                  have FA : Hid (Fr [] wb (wb.drew.alloc (.cells #[.string VL] 9))) := Hid.mk ((Fr.refl [] wb).drew.alloc _)
                  have OA : Hid ((wb.drew.alloc (.cells #[.string VL] 9)).ownsRow w.heap.size 9 1 (.slice (some ⟨eb, 0, none⟩) ln ec) ln (E[J].l.map Value.string)) := Hid.mk (by rw [← HJV.out, ← HLN.out]; exact own_type OJ.out FA.out (by simp))
                  have hbase : w.heap.size ≤ (wb.drew.alloc (.cells #[.string VL] 9)).heap.size := Nat.le_trans (mgb.out.fr.size) FA.out.size
                  have IE := Hid.mk (mgb.out.kept0 FA.out)
                  have ctA : (wb.alloc (.cells #[.string VL] 9)).cell? ⟨tg, J, none⟩ = some (.slice (some ⟨eb, 0, none⟩) ln ec) := (World.cell?_of_block (((Fr.refl [] wb).alloc (.cells #[.string VL] 9)).block tg (block_lt_of_cell ct') (by simp))).trans ct'
                  clear n0 n3
                  go_region_law (refine step_append_lies _ rfl (.tmp 63) (.tmp 66) 66 rfl w.heap.size 9 i9 (.string ⟨#[]⟩) 1 16 Tryz.underlying66 hi9 hz9 hs9 hb9 rfl (by omega) (.slice (some ⟨eb, 0, none⟩) ln ec) ln (E[J].l.map Value.string) rfl OA.out ⟨wb.heap.size, 0, none⟩ 1 1 [.string VL] rfl rfl (by intro q u hu; cases q with | zero => (simp at hu; subst hu; rw [Addr.add_mid]; exact cell_of_row _ _ 0 _ _ _ (heap_alloc_new wb.drew _)) | succ q => simp at hu) (by intro u hu; simp at hu; subst hu; rfl) (by omega) (by have := HLN.out; have := hJc.out; unfold maxLen; omega) (by have := HLN.out; have := hJc.out; omega) hbase _ rfl ?_; intro g9 cap9 w9 own9 gr9 hg9 lt9; obtain ⟨ct9, zt9⟩ := IE.out.vt.tab J hJ (by rw [HJV.out]; exact fr_row gr9) tg c4 (by rw [← HME.out]); rw [HJV.out] at ct9)
                  all_goals
                    go_wp2_with fail
                    exact ⟨⟨i + 1, m, t3, _, a3, c3, _, c4, by omega, by go_num, rfl, rfl, Hid.mk (by
                      have hq := IE.out.more J hJ VL g9 cap9 (by rw [HLN.out]; exact own9) (by rw [HJV.out]; exact fr_row gr9) (by rw [HJV.out]; exact hg9) tg c4 (by rw [← HME.out])
                      rw [HLN.out] at hq
                      rw [HV.out]
                      exact hq)⟩, by simp [RowKit.intOf]; omega⟩
                · exact ⟨⟨i + 1, m + 1, _, _, _, _, _, _, by omega, by go_num, rfl, rfl, Hid.mk (by rw [HV.out]; exact MGE)⟩, by simp [RowKit.intOf]; omega⟩
          | true =>
            by_cases hp : 0 ≤ p
            · obtain ⟨P, rfl⟩ : ∃ P : Nat, p = (P : Int) := ⟨p.toNat, by omega⟩
              have hP0 : (0 : Int) ≤ (P : Int) := by omega
              have hPn : (P : Int) < (n : Int) := by omega
              go_wp2_with (first
                | (refine wp_alloc 62 rfl rfl _ zeroN _ rfl ?_; intro wa ga hga hca fa)
                | (refine wp_storeC 62 rfl _ _ rfl ga _ (ndC 4 NM VL (P : Int)) rfl rfl hca infoN rfl (ndC_one _ _ _ _) ?_; intro wb hcb fb; have frb : Fr [] wr wb := fa.then fb (fun j hj hm => (by simp at hm; omega)); have mgb := Hid.mk (MG.out.kept0 frb); have n0 : wb.cell? ⟨ga, 0, none⟩ = some (.int .u8 ((4 : Nat) : Int)) := hcb.cell 0; have n2 : wb.cell? ⟨ga, 2, none⟩ = some (.string VL) := hcb.cell 2; have n3 : wb.cell? ⟨ga, 3, none⟩ = some (.int .i64 (P : Int)) := hcb.cell 3; have HCB := Hid.mk hcb; clear hca fa fb hcb)
                | (go_at_call 22; refine (IA.out _ frb).mono ?_; rintro e wz ⟨rfl, hz⟩; rw [hz]; clear hz)
                | (refine wp_txLook rfl _ _ rfl gm i m (P : Int) rfl mgb.out.mp rfl hwp ?_; intro cc is his; obtain ⟨xp, cp, -, -, zp⟩ := mgb.out.pl.cell i hlt; obtain ⟨we, hwe⟩ : ∃ we, wb.setCell ⟨gp, i, none⟩ (.int .i64 (m : Int)) = we := ⟨_, rfl⟩; have mge := Hid.mk (hwe ▸ mgb.out.place i (m : Int) (by omega) (by omega)); have fbe : Fr [gp] wb we := hwe ▸ ((Fr.refl [gp] wb).setCell _ _ (by simp)); have w0c : we.cell? ⟨ga, 0, none⟩ = some (.int .u8 ((4 : Nat) : Int)) := (HCB.out.kept fbe (by simp; omega)).cell 0; have w3c : we.cell? ⟨ga, 3, none⟩ = some (.int .i64 (P : Int)) := (HCB.out.kept fbe (by simp; omega)).cell 3)
                | (refine wp_txDel rfl _ _ rfl gm i m (P : Int) rfl mge.out.mp rfl hwp ?_; intro wd txd fd; have MGD := Hid.mk (mge.out.map fd (txd.mono (Nat.le_succ i) (Nat.le_succ m)) (by omega)); have fbd : Fr [gp, gm] wb wd := (fbe.mono (M := [gp, gm]) (fun q _ h => (by simp at h; simp [h]))).trans (fd.mono (fun q _ h => (by simp at h; simp [h]))); have HCD := Hid.mk (HCB.out.kept fbd (by simp; omega)); have d0 : wd.cell? ⟨ga, 0, none⟩ = some (.int .u8 ((4 : Nat) : Int)) := HCD.out.cell 0; have d1 : wd.cell? ⟨ga, 1, none⟩ = some (.string NM) := HCD.out.cell 1; have d2 : wd.cell? ⟨ga, 2, none⟩ = some (.string VL) := HCD.out.cell 2; have d3 : wd.cell? ⟨ga, 3, none⟩ = some (.int .i64 (P : Int)) := HCD.out.cell 3; have hgaR : Hid (ga ∉ (Value.slice a3 m c3).ownBlock.toList) := Hid.mk (fun hm => (by have := MG.out.rowlt _ hm; omega)); have hgaB : w.heap.size ≤ ga := Nat.le_trans MG.out.fr.size hga; have e3 := frozen_of_row wd ga 3 _ _ HCD.out; obtain ⟨xq, cq, hq0, hq1, -⟩ := MGD.out.pl.cell P (by omega); obtain ⟨wv, hwv⟩ : ∃ wv, wd.setCell ⟨ga, 3, none⟩ (.int .i64 xq) = wv := ⟨_, rfl⟩; have fv : Fr [ga] wd wv := hwv ▸ ((Fr.refl [ga] wd).setCell _ _ (by simp)); have HCV : Hid (Cells wv ga 62 (ndC 4 NM VL xq)) := Hid.mk (hwv ▸ HCD.out.set3 xq); have MGV := Hid.mk (MGD.out.kept1 fv hgaR.out HCD.out hgaB); have u0 : wv.cell? ⟨ga, 0, none⟩ = some (.int .u8 ((4 : Nat) : Int)) := HCV.out.cell 0; have u1 : wv.cell? ⟨ga, 1, none⟩ = some (.string NM) := HCV.out.cell 1; have u2 : wv.cell? ⟨ga, 2, none⟩ = some (.string VL) := HCV.out.cell 2; have u3 : wv.cell? ⟨ga, 3, none⟩ = some (.int .i64 xq) := HCV.out.cell 3)
                | (refine wp_mgRow rfl _ _ rfl (MGV.out.kept0 ((Fr.refl [] wv).alloc _)) rfl wv.heap.size rfl ⟨4, NM, VL, xq⟩ (heap_alloc_new wv _) (by omega) ?_; intro g6 cap6 w6 row6 vt6 pl6 tx6 fr6 f6; have v2 : w6.cell? ⟨ga, 2, none⟩ = some (.string VL) := ((HCV.out.kept ((Fr.refl [] wv).alloc _) (by simp)).kept f6 hgaR.out).cell 2; have ROW := Hid.mk row6; have VTS := Hid.mk vt6; have PLS := Hid.mk pl6; have TXS := Hid.mk tx6; have FRS := Hid.mk fr6; clear row6 vt6 pl6 tx6 fr6 f6)
                | (refine wp_vtPushM rfl _ _ rfl rfl rfl rfl rfl ROW.out (by rw [List.length_append, MG.out.rl]; rfl) VTS.out PLS.out MG.out.gpB TXS.out MG.out.gmB FRS.out MG.out.el MG.out.sum (by omega) (fun e he => Nat.le_succ_of_le (MG.out.cnt e he)) (by omega) ?_; intro g7 c7 w7 MGE))
              exact ⟨⟨i + 1, m + 1, _, _, _, _, _, _, by omega, by go_num, rfl, rfl, Hid.mk (by rw [HV.out]; exact MGE)⟩, by simp [RowKit.intOf]; omega⟩
            · have hpn : ¬ (0 : Int) ≤ p := by omega
              have hpn' : p < 0 := by omega
              go_wp2_with (first
                | (refine wp_alloc 62 rfl rfl _ zeroN _ rfl ?_; intro wa ga hga hca fa)
                | (refine wp_storeC 62 rfl _ _ rfl ga _ (ndC 4 NM VL p) rfl rfl hca infoN rfl (ndC_one _ _ _ _) ?_; intro wb hcb fb; have frb : Fr [] wr wb := fa.then fb (fun j hj hm => (by simp at hm; omega)); have mgb := Hid.mk (MG.out.kept0 frb); have n0 : wb.cell? ⟨ga, 0, none⟩ = some (.int .u8 ((4 : Nat) : Int)) := hcb.cell 0; have n2 : wb.cell? ⟨ga, 2, none⟩ = some (.string VL) := hcb.cell 2; have n3 : wb.cell? ⟨ga, 3, none⟩ = some (.int .i64 p) := hcb.cell 3; have HCB := Hid.mk hcb; clear hca fa fb hcb)
                | (go_at_call 22; refine (IA.out _ frb).mono ?_; rintro e wz ⟨rfl, hz⟩; rw [hz]; clear hz)
                | (refine wp_txLook rfl _ _ rfl gm i m p rfl mgb.out.mp rfl hwp ?_; intro cc is his; obtain ⟨xp, cp, -, -, zp⟩ := mgb.out.pl.cell i hlt; obtain ⟨we, hwe⟩ : ∃ we, wb.setCell ⟨gp, i, none⟩ (.int .i64 (m : Int)) = we := ⟨_, rfl⟩; have mge := Hid.mk (hwe ▸ mgb.out.place i (m : Int) (by omega) (by omega)); have fbe : Fr [gp] wb we := hwe ▸ ((Fr.refl [gp] wb).setCell _ _ (by simp)); have w0c : we.cell? ⟨ga, 0, none⟩ = some (.int .u8 ((4 : Nat) : Int)) := (HCB.out.kept fbe (by simp; omega)).cell 0; have w3c : we.cell? ⟨ga, 3, none⟩ = some (.int .i64 p) := (HCB.out.kept fbe (by simp; omega)).cell 3)
                | (refine wp_txDel rfl _ _ rfl gm i m p rfl mge.out.mp rfl hwp ?_; intro wd txd fd; have MGD := Hid.mk (mge.out.map fd (txd.mono (Nat.le_succ i) (Nat.le_succ m)) (by omega)); have fbd : Fr [gp, gm] wb wd := (fbe.mono (M := [gp, gm]) (fun q _ h => (by simp at h; simp [h]))).trans (fd.mono (fun q _ h => (by simp at h; simp [h]))); have HCD := Hid.mk (HCB.out.kept fbd (by simp; omega)); have d0 : wd.cell? ⟨ga, 0, none⟩ = some (.int .u8 ((4 : Nat) : Int)) := HCD.out.cell 0; have d1 : wd.cell? ⟨ga, 1, none⟩ = some (.string NM) := HCD.out.cell 1; have d2 : wd.cell? ⟨ga, 2, none⟩ = some (.string VL) := HCD.out.cell 2; have d3 : wd.cell? ⟨ga, 3, none⟩ = some (.int .i64 p) := HCD.out.cell 3; have hgaR : Hid (ga ∉ (Value.slice a3 m c3).ownBlock.toList) := Hid.mk (fun hm => (by have := MG.out.rowlt _ hm; omega)); have hgaB : w.heap.size ≤ ga := Nat.le_trans MG.out.fr.size hga; have MGV := MGD; have HCV := HCD)
                | (refine wp_mgRow rfl _ _ rfl (MGV.out.kept0 ((Fr.refl [] wd).alloc _)) rfl wd.heap.size rfl ⟨4, NM, VL, p⟩ (heap_alloc_new wd _) (by omega) ?_; intro g6 cap6 w6 row6 vt6 pl6 tx6 fr6 f6; have v2 : w6.cell? ⟨ga, 2, none⟩ = some (.string VL) := ((HCV.out.kept ((Fr.refl [] wd).alloc _) (by simp)).kept f6 hgaR.out).cell 2; have ROW := Hid.mk row6; have VTS := Hid.mk vt6; have PLS := Hid.mk pl6; have TXS := Hid.mk tx6; have FRS := Hid.mk fr6; clear row6 vt6 pl6 tx6 fr6 f6)
                | (refine wp_vtPushM rfl _ _ rfl rfl rfl rfl rfl ROW.out (by rw [List.length_append, MG.out.rl]; rfl) VTS.out PLS.out MG.out.gpB TXS.out MG.out.gmB FRS.out MG.out.el MG.out.sum (by omega) (fun e he => Nat.le_succ_of_le (MG.out.cnt e he)) (by omega) ?_; intro g7 c7 w7 MGE))
              exact ⟨⟨i + 1, m + 1, _, _, _, _, _, _, by omega, by go_num, rfl, rfl, Hid.mk (by rw [HV.out]; exact MGE)⟩, by simp [RowKit.intOf]; omega⟩
        · by_cases h3 : K = 3
          · subst h3
            by_cases hp : 0 ≤ p
            · obtain ⟨P, rfl⟩ : ∃ P : Nat, p = (P : Int) := ⟨p.toNat, by omega⟩
              have hP0 : (0 : Int) ≤ (P : Int) := by omega
              have hPn : (P : Int) < (n : Int) := by omega
              go_wp2_with (first
                | (refine wp_alloc 62 rfl rfl _ zeroN _ rfl ?_; intro wa ga hga hca fa)
                | (refine wp_storeC 62 rfl _ _ rfl ga _ (ndC 3 NM VL (P : Int)) rfl rfl hca infoN rfl (ndC_one _ _ _ _) ?_; intro wb hcb fb; have frb : Fr [] wr wb := fa.then fb (fun j hj hm => (by simp at hm; omega)); have mgb := Hid.mk (MG.out.kept0 frb); have n0 : wb.cell? ⟨ga, 0, none⟩ = some (.int .u8 ((3 : Nat) : Int)) := hcb.cell 0; have n2 : wb.cell? ⟨ga, 2, none⟩ = some (.string VL) := hcb.cell 2; have n3 : wb.cell? ⟨ga, 3, none⟩ = some (.int .i64 (P : Int)) := hcb.cell 3; have HCB := Hid.mk hcb; clear hca fa fb hcb)
                | (go_at_call 22; refine (IA.out _ frb).mono ?_; rintro e wz ⟨rfl, hz⟩; rw [hz]; clear hz)
                | (refine wp_txLook rfl _ _ rfl gm i m (P : Int) rfl mgb.out.mp rfl hwp ?_; intro cc is his; obtain ⟨xp, cp, -, -, zp⟩ := mgb.out.pl.cell i hlt; obtain ⟨we, hwe⟩ : ∃ we, wb.setCell ⟨gp, i, none⟩ (.int .i64 (m : Int)) = we := ⟨_, rfl⟩; have mge := Hid.mk (hwe ▸ mgb.out.place i (m : Int) (by omega) (by omega)); have fbe : Fr [gp] wb we := hwe ▸ ((Fr.refl [gp] wb).setCell _ _ (by simp)); have MGD := Hid.mk (mge.out.on (Nat.le_succ i) (Nat.le_succ m) (Nat.le_refl _)); have HCD := Hid.mk (HCB.out.kept fbe (by simp; omega)); have d0 : we.cell? ⟨ga, 0, none⟩ = some (.int .u8 ((3 : Nat) : Int)) := HCD.out.cell 0; have d1 : we.cell? ⟨ga, 1, none⟩ = some (.string NM) := HCD.out.cell 1; have d2 : we.cell? ⟨ga, 2, none⟩ = some (.string VL) := HCD.out.cell 2; have d3 : we.cell? ⟨ga, 3, none⟩ = some (.int .i64 (P : Int)) := HCD.out.cell 3; have hgaR : Hid (ga ∉ (Value.slice a3 m c3).ownBlock.toList) := Hid.mk (fun hm => (by have := MG.out.rowlt _ hm; omega)); have hgaB : w.heap.size ≤ ga := Nat.le_trans MG.out.fr.size hga; have e3 := frozen_of_row we ga 3 _ _ HCD.out; obtain ⟨xq, cq, hq0, hq1, -⟩ := MGD.out.pl.cell P (by omega); obtain ⟨wv, hwv⟩ : ∃ wv, we.setCell ⟨ga, 3, none⟩ (.int .i64 xq) = wv := ⟨_, rfl⟩; have fv : Fr [ga] we wv := hwv ▸ ((Fr.refl [ga] we).setCell _ _ (by simp)); have HCV : Hid (Cells wv ga 62 (ndC 3 NM VL xq)) := Hid.mk (hwv ▸ HCD.out.set3 xq); have MGV := Hid.mk (MGD.out.kept1 fv hgaR.out HCD.out hgaB); have u0 : wv.cell? ⟨ga, 0, none⟩ = some (.int .u8 ((3 : Nat) : Int)) := HCV.out.cell 0; have u1 : wv.cell? ⟨ga, 1, none⟩ = some (.string NM) := HCV.out.cell 1; have u2 : wv.cell? ⟨ga, 2, none⟩ = some (.string VL) := HCV.out.cell 2; have u3 : wv.cell? ⟨ga, 3, none⟩ = some (.int .i64 xq) := HCV.out.cell 3)
                | (refine wp_mgRow rfl _ _ rfl (MGV.out.kept0 ((Fr.refl [] wv).alloc _)) rfl wv.heap.size rfl ⟨3, NM, VL, xq⟩ (heap_alloc_new wv _) (by omega) ?_; intro g6 cap6 w6 row6 vt6 pl6 tx6 fr6 f6; have v2 : w6.cell? ⟨ga, 2, none⟩ = some (.string VL) := ((HCV.out.kept ((Fr.refl [] wv).alloc _) (by simp)).kept f6 hgaR.out).cell 2; have ROW := Hid.mk row6; have VTS := Hid.mk vt6; have PLS := Hid.mk pl6; have TXS := Hid.mk tx6; have FRS := Hid.mk fr6; clear row6 vt6 pl6 tx6 fr6 f6)
                | (refine wp_vtPushM rfl _ _ rfl rfl rfl rfl rfl ROW.out (by rw [List.length_append, MG.out.rl]; rfl) VTS.out PLS.out MG.out.gpB TXS.out MG.out.gmB FRS.out MG.out.el MG.out.sum (by omega) (fun e he => Nat.le_succ_of_le (MG.out.cnt e he)) (by omega) ?_; intro g7 c7 w7 MGE))
              exact ⟨⟨i + 1, m + 1, _, _, _, _, _, _, by omega, by go_num, rfl, rfl, Hid.mk (by rw [HV.out]; exact MGE)⟩, by simp [RowKit.intOf]; omega⟩
            · have hpn : ¬ (0 : Int) ≤ p := by omega
              have hpn' : p < 0 := by omega
              go_wp2_with (first
                | (refine wp_alloc 62 rfl rfl _ zeroN _ rfl ?_; intro wa ga hga hca fa)
                | (refine wp_storeC 62 rfl _ _ rfl ga _ (ndC 3 NM VL p) rfl rfl hca infoN rfl (ndC_one _ _ _ _) ?_; intro wb hcb fb; have frb : Fr [] wr wb := fa.then fb (fun j hj hm => (by simp at hm; omega)); have mgb := Hid.mk (MG.out.kept0 frb); have n0 : wb.cell? ⟨ga, 0, none⟩ = some (.int .u8 ((3 : Nat) : Int)) := hcb.cell 0; have n2 : wb.cell? ⟨ga, 2, none⟩ = some (.string VL) := hcb.cell 2; have n3 : wb.cell? ⟨ga, 3, none⟩ = some (.int .i64 p) := hcb.cell 3; have HCB := Hid.mk hcb; clear hca fa fb hcb)
                | (go_at_call 22; refine (IA.out _ frb).mono ?_; rintro e wz ⟨rfl, hz⟩; rw [hz]; clear hz)
                | (refine wp_txLook rfl _ _ rfl gm i m p rfl mgb.out.mp rfl hwp ?_; intro cc is his; obtain ⟨xp, cp, -, -, zp⟩ := mgb.out.pl.cell i hlt; obtain ⟨we, hwe⟩ : ∃ we, wb.setCell ⟨gp, i, none⟩ (.int .i64 (m : Int)) = we := ⟨_, rfl⟩; have mge := Hid.mk (hwe ▸ mgb.out.place i (m : Int) (by omega) (by omega)); have fbe : Fr [gp] wb we := hwe ▸ ((Fr.refl [gp] wb).setCell _ _ (by simp)); have MGD := Hid.mk (mge.out.on (Nat.le_succ i) (Nat.le_succ m) (Nat.le_refl _)); have HCD := Hid.mk (HCB.out.kept fbe (by simp; omega)); have d0 : we.cell? ⟨ga, 0, none⟩ = some (.int .u8 ((3 : Nat) : Int)) := HCD.out.cell 0; have d1 : we.cell? ⟨ga, 1, none⟩ = some (.string NM) := HCD.out.cell 1; have d2 : we.cell? ⟨ga, 2, none⟩ = some (.string VL) := HCD.out.cell 2; have d3 : we.cell? ⟨ga, 3, none⟩ = some (.int .i64 p) := HCD.out.cell 3; have hgaR : Hid (ga ∉ (Value.slice a3 m c3).ownBlock.toList) := Hid.mk (fun hm => (by have := MG.out.rowlt _ hm; omega)); have hgaB : w.heap.size ≤ ga := Nat.le_trans MG.out.fr.size hga; have MGV := MGD; have HCV := HCD)
                | (refine wp_mgRow rfl _ _ rfl (MGV.out.kept0 ((Fr.refl [] we).alloc _)) rfl we.heap.size rfl ⟨3, NM, VL, p⟩ (heap_alloc_new we _) (by omega) ?_; intro g6 cap6 w6 row6 vt6 pl6 tx6 fr6 f6; have v2 : w6.cell? ⟨ga, 2, none⟩ = some (.string VL) := ((HCV.out.kept ((Fr.refl [] we).alloc _) (by simp)).kept f6 hgaR.out).cell 2; have ROW := Hid.mk row6; have VTS := Hid.mk vt6; have PLS := Hid.mk pl6; have TXS := Hid.mk tx6; have FRS := Hid.mk fr6; clear row6 vt6 pl6 tx6 fr6 f6)
                | (refine wp_vtPushM rfl _ _ rfl rfl rfl rfl rfl ROW.out (by rw [List.length_append, MG.out.rl]; rfl) VTS.out PLS.out MG.out.gpB TXS.out MG.out.gmB FRS.out MG.out.el MG.out.sum (by omega) (fun e he => Nat.le_succ_of_le (MG.out.cnt e he)) (by omega) ?_; intro g7 c7 w7 MGE))
              exact ⟨⟨i + 1, m + 1, _, _, _, _, _, _, by omega, by go_num, rfl, rfl, Hid.mk (by rw [HV.out]; exact MGE)⟩, by simp [RowKit.intOf]; omega⟩
          · have hk4 : ((K : Int) == 4) = false := by rw [beq_eq_false_iff_ne]; omega
            have hk3 : ((K : Int) == 3) = false := by rw [beq_eq_false_iff_ne]; omega
            by_cases hp : 0 ≤ p
            · obtain ⟨P, rfl⟩ : ∃ P : Nat, p = (P : Int) := ⟨p.toNat, by omega⟩
              have hP0 : (0 : Int) ≤ (P : Int) := by omega
              have hPn : (P : Int) < (n : Int) := by omega
              go_wp2_with (first
                | (refine wp_alloc 62 rfl rfl _ zeroN _ rfl ?_; intro wa ga hga hca fa)
                | (refine wp_storeC 62 rfl _ _ rfl ga _ (ndC K NM VL (P : Int)) rfl rfl hca infoN rfl (ndC_one _ _ _ _) ?_; intro wb hcb fb; have frb : Fr [] wr wb := fa.then fb (fun j hj hm => (by simp at hm; omega)); have mgb := Hid.mk (MG.out.kept0 frb); have n0 : wb.cell? ⟨ga, 0, none⟩ = some (.int .u8 ((K : Nat) : Int)) := hcb.cell 0; have n2 : wb.cell? ⟨ga, 2, none⟩ = some (.string VL) := hcb.cell 2; have n3 : wb.cell? ⟨ga, 3, none⟩ = some (.int .i64 (P : Int)) := hcb.cell 3; have HCB := Hid.mk hcb; clear hca fa fb hcb)
                | (go_at_call 22; refine (IA.out _ frb).mono ?_; rintro e wz ⟨rfl, hz⟩; rw [hz]; clear hz)
                | (refine wp_txLook rfl _ _ rfl gm i m (P : Int) rfl mgb.out.mp rfl hwp ?_; intro cc is his; obtain ⟨xp, cp, -, -, zp⟩ := mgb.out.pl.cell i hlt; obtain ⟨we, hwe⟩ : ∃ we, wb.setCell ⟨gp, i, none⟩ (.int .i64 (m : Int)) = we := ⟨_, rfl⟩; have mge := Hid.mk (hwe ▸ mgb.out.place i (m : Int) (by omega) (by omega)); have fbe : Fr [gp] wb we := hwe ▸ ((Fr.refl [gp] wb).setCell _ _ (by simp)); have w0c : we.cell? ⟨ga, 0, none⟩ = some (.int .u8 ((K : Nat) : Int)) := (HCB.out.kept fbe (by simp; omega)).cell 0; have w3c : we.cell? ⟨ga, 3, none⟩ = some (.int .i64 (P : Int)) := (HCB.out.kept fbe (by simp; omega)).cell 3)
                | (refine wp_txDel rfl _ _ rfl gm i m (P : Int) rfl mge.out.mp rfl hwp ?_; intro wd txd fd; have MGD := Hid.mk (mge.out.map fd (txd.mono (Nat.le_succ i) (Nat.le_succ m)) (by omega)); have fbd : Fr [gp, gm] wb wd := (fbe.mono (M := [gp, gm]) (fun q _ h => (by simp at h; simp [h]))).trans (fd.mono (fun q _ h => (by simp at h; simp [h]))); have HCD := Hid.mk (HCB.out.kept fbd (by simp; omega)); have d0 : wd.cell? ⟨ga, 0, none⟩ = some (.int .u8 ((K : Nat) : Int)) := HCD.out.cell 0; have d1 : wd.cell? ⟨ga, 1, none⟩ = some (.string NM) := HCD.out.cell 1; have d2 : wd.cell? ⟨ga, 2, none⟩ = some (.string VL) := HCD.out.cell 2; have d3 : wd.cell? ⟨ga, 3, none⟩ = some (.int .i64 (P : Int)) := HCD.out.cell 3; have hgaR : Hid (ga ∉ (Value.slice a3 m c3).ownBlock.toList) := Hid.mk (fun hm => (by have := MG.out.rowlt _ hm; omega)); have hgaB : w.heap.size ≤ ga := Nat.le_trans MG.out.fr.size hga; have e3 := frozen_of_row wd ga 3 _ _ HCD.out; obtain ⟨xq, cq, hq0, hq1, -⟩ := MGD.out.pl.cell P (by omega); obtain ⟨wv, hwv⟩ : ∃ wv, wd.setCell ⟨ga, 3, none⟩ (.int .i64 xq) = wv := ⟨_, rfl⟩; have fv : Fr [ga] wd wv := hwv ▸ ((Fr.refl [ga] wd).setCell _ _ (by simp)); have HCV : Hid (Cells wv ga 62 (ndC K NM VL xq)) := Hid.mk (hwv ▸ HCD.out.set3 xq); have MGV := Hid.mk (MGD.out.kept1 fv hgaR.out HCD.out hgaB); have u0 : wv.cell? ⟨ga, 0, none⟩ = some (.int .u8 ((K : Nat) : Int)) := HCV.out.cell 0; have u1 : wv.cell? ⟨ga, 1, none⟩ = some (.string NM) := HCV.out.cell 1; have u2 : wv.cell? ⟨ga, 2, none⟩ = some (.string VL) := HCV.out.cell 2; have u3 : wv.cell? ⟨ga, 3, none⟩ = some (.int .i64 xq) := HCV.out.cell 3)
                | (refine wp_mgRow rfl _ _ rfl (MGV.out.kept0 ((Fr.refl [] wv).alloc _)) rfl wv.heap.size rfl ⟨K, NM, VL, xq⟩ (heap_alloc_new wv _) (by omega) ?_; intro g6 cap6 w6 row6 vt6 pl6 tx6 fr6 f6; have v2 : w6.cell? ⟨ga, 2, none⟩ = some (.string VL) := ((HCV.out.kept ((Fr.refl [] wv).alloc _) (by simp)).kept f6 hgaR.out).cell 2; have ROW := Hid.mk row6; have VTS := Hid.mk vt6; have PLS := Hid.mk pl6; have TXS := Hid.mk tx6; have FRS := Hid.mk fr6; clear row6 vt6 pl6 tx6 fr6 f6)
                | (refine wp_vtPushM rfl _ _ rfl rfl rfl rfl rfl ROW.out (by rw [List.length_append, MG.out.rl]; rfl) VTS.out PLS.out MG.out.gpB TXS.out MG.out.gmB FRS.out MG.out.el MG.out.sum (by omega) (fun e he => Nat.le_succ_of_le (MG.out.cnt e he)) (by omega) ?_; intro g7 c7 w7 MGE))
              exact ⟨⟨i + 1, m + 1, _, _, _, _, _, _, by omega, by go_num, rfl, rfl, Hid.mk (by rw [HV.out]; exact MGE)⟩, by simp [RowKit.intOf]; omega⟩
            · have hpn : ¬ (0 : Int) ≤ p := by omega
              have hpn' : p < 0 := by omega
              go_wp2_with (first
                | (refine wp_alloc 62 rfl rfl _ zeroN _ rfl ?_; intro wa ga hga hca fa)
                | (refine wp_storeC 62 rfl _ _ rfl ga _ (ndC K NM VL p) rfl rfl hca infoN rfl (ndC_one _ _ _ _) ?_; intro wb hcb fb; have frb : Fr [] wr wb := fa.then fb (fun j hj hm => (by simp at hm; omega)); have mgb := Hid.mk (MG.out.kept0 frb); have n0 : wb.cell? ⟨ga, 0, none⟩ = some (.int .u8 ((K : Nat) : Int)) := hcb.cell 0; have n2 : wb.cell? ⟨ga, 2, none⟩ = some (.string VL) := hcb.cell 2; have n3 : wb.cell? ⟨ga, 3, none⟩ = some (.int .i64 p) := hcb.cell 3; have HCB := Hid.mk hcb; clear hca fa fb hcb)
                | (go_at_call 22; refine (IA.out _ frb).mono ?_; rintro e wz ⟨rfl, hz⟩; rw [hz]; clear hz)
                | (refine wp_txLook rfl _ _ rfl gm i m p rfl mgb.out.mp rfl hwp ?_; intro cc is his; obtain ⟨xp, cp, -, -, zp⟩ := mgb.out.pl.cell i hlt; obtain ⟨we, hwe⟩ : ∃ we, wb.setCell ⟨gp, i, none⟩ (.int .i64 (m : Int)) = we := ⟨_, rfl⟩; have mge := Hid.mk (hwe ▸ mgb.out.place i (m : Int) (by omega) (by omega)); have fbe : Fr [gp] wb we := hwe ▸ ((Fr.refl [gp] wb).setCell _ _ (by simp)); have w0c : we.cell? ⟨ga, 0, none⟩ = some (.int .u8 ((K : Nat) : Int)) := (HCB.out.kept fbe (by simp; omega)).cell 0; have w3c : we.cell? ⟨ga, 3, none⟩ = some (.int .i64 p) := (HCB.out.kept fbe (by simp; omega)).cell 3)
                | (refine wp_txDel rfl _ _ rfl gm i m p rfl mge.out.mp rfl hwp ?_; intro wd txd fd; have MGD := Hid.mk (mge.out.map fd (txd.mono (Nat.le_succ i) (Nat.le_succ m)) (by omega)); have fbd : Fr [gp, gm] wb wd := (fbe.mono (M := [gp, gm]) (fun q _ h => (by simp at h; simp [h]))).trans (fd.mono (fun q _ h => (by simp at h; simp [h]))); have HCD := Hid.mk (HCB.out.kept fbd (by simp; omega)); have d0 : wd.cell? ⟨ga, 0, none⟩ = some (.int .u8 ((K : Nat) : Int)) := HCD.out.cell 0; have d1 : wd.cell? ⟨ga, 1, none⟩ = some (.string NM) := HCD.out.cell 1; have d2 : wd.cell? ⟨ga, 2, none⟩ = some (.string VL) := HCD.out.cell 2; have d3 : wd.cell? ⟨ga, 3, none⟩ = some (.int .i64 p) := HCD.out.cell 3; have hgaR : Hid (ga ∉ (Value.slice a3 m c3).ownBlock.toList) := Hid.mk (fun hm => (by have := MG.out.rowlt _ hm; omega)); have hgaB : w.heap.size ≤ ga := Nat.le_trans MG.out.fr.size hga; have MGV := MGD; have HCV := HCD)
                | (refine wp_mgRow rfl _ _ rfl (MGV.out.kept0 ((Fr.refl [] wd).alloc _)) rfl wd.heap.size rfl ⟨K, NM, VL, p⟩ (heap_alloc_new wd _) (by omega) ?_; intro g6 cap6 w6 row6 vt6 pl6 tx6 fr6 f6; have v2 : w6.cell? ⟨ga, 2, none⟩ = some (.string VL) := ((HCV.out.kept ((Fr.refl [] wd).alloc _) (by simp)).kept f6 hgaR.out).cell 2; have ROW := Hid.mk row6; have VTS := Hid.mk vt6; have PLS := Hid.mk pl6; have TXS := Hid.mk tx6; have FRS := Hid.mk fr6; clear row6 vt6 pl6 tx6 fr6 f6)
                | (refine wp_vtPushM rfl _ _ rfl rfl rfl rfl rfl ROW.out (by rw [List.length_append, MG.out.rl]; rfl) VTS.out PLS.out MG.out.gpB TXS.out MG.out.gmB FRS.out MG.out.el MG.out.sum (by omega) (fun e he => Nat.le_succ_of_le (MG.out.cnt e he)) (by omega) ?_; intro g7 c7 w7 MGE))
              exact ⟨⟨i + 1, m + 1, _, _, _, _, _, _, by omega, by go_num, rfl, rfl, Hid.mk (by rw [HV.out]; exact MGE)⟩, by simp [RowKit.intOf]; omega⟩
      · obtain rfl : i = n := by omega
        have hmm1 : (0 : Int) ≤ (m : Int) := by omega
        have ROW0 := Hid.mk MG.out.row
        have RL0 := Hid.mk MG.out.rl
        have VT0 := Hid.mk MG.out.vt
        have EL := Hid.mk MG.out.el
        have SUM := Hid.mk MG.out.sum
        have CNT := Hid.mk MG.out.cnt
        have FR0 := Hid.mk MG.out.fr
        clear MG
        go_wp2_with fail
        go_loopw [110] (fun s110 wq => ∃ (j : Nat) (t4 : List Nd), j ≤ m ∧ s110 = .int .i64 (j : Int) ∧ Hid (wq.ownsRow w.heap.size 62 4 (.slice a3 m c3) m (rowL t4)) ∧ Hid (t4.length = m) ∧ Hid (Vt w.heap.size wq (.slice a4 m c4) E) ∧ Hid (Fr [] w wq)) (fun s110 _ => m - (RowKit.intOf s110).toNat)
        case atStart => exact ⟨0, t3, by omega, rfl, ROW0, RL0, VT0, FR0⟩
        case round =>
          clear ROW0 RL0 VT0 FR0
          obtain ⟨j, t4, hj, rfl, ROW, RL, VT, FR⟩ := hrel
          by_cases hjm : j < m
          · have hjm' : (j : Int) < (m : Int) := by omega
            have hj0 : (0 : Int) ≤ (j : Int) := by omega
            have hjE : j < E.length := by rw [EL.out]; exact hjm
            obtain ⟨tg, tcap, hv4, ct, -, -⟩ := VT.out.at j hjE
            obtain ⟨rfl, hmE, rfl⟩ : a4 = some ⟨tg, 0, none⟩ ∧ m = E.length ∧ c4 = tcap := by simpa using hv4
            obtain ⟨g3, cap3, hv3, ⟨u3, cu3⟩, zu3, hB3, cur3, hg3⟩ := row_cell ROW.out j hjm
            obtain ⟨rfl, rfl⟩ : a3 = some ⟨g3, 0, none⟩ ∧ c3 = cap3 := by simpa using hv3
            have hei : E[j] ∈ E := List.getElem_mem _
            have JN : Hid (Calls Tryz.prog 23 #[E[j].v, .string ⟨#[]⟩] wr fun e w' => e = .returned (.string (mkS ((E[j].l.map bl).flatten))) ∧ Fr [] wr w') := Hid.mk (join_any w wr _ E[j].l (VT.out.each _ hei) (by have := CNT.out _ hei; omega) (by have h1 := totE_mem E _ hei; have h2 := SUM.out; have h3 := HT.out; unfold Ent.tot at h1; omega))
            clear hv4 hv3 hmE hei
            generalize E[j].v = EV at ct JN
            generalize mkS ((E[j].l.map bl).flatten) = SV at JN
            have HG3 := Hid.mk hg3
            clear hg3
            go_wp2_with fail
            refine JN.out.mono ?_
            rintro e w5 ⟨rfl, f5⟩
            have cu5 : w5.cell? ⟨g3, j * 4 + 2, none⟩ = some u3 := (World.cell?_of_block (f5.block g3 (block_lt_of_cell cu3) (by simp))).trans cu3
            have zu5 : w5.frozen? ⟨g3, j * 4 + 2, none⟩ = false := frozen_of_row w5 g3 _ _ _ (f5.same (by simp) HG3.out)
            have R5 := Hid.mk (row_set (own_type ROW.out f5 (by simp)) RL.out j hjm SV)
            have V5 : Hid (Vt w.heap.size (w5.setCell ⟨g3, j * 4 + 2, none⟩ (.string SV)) (.slice (some ⟨tg, 0, none⟩) m c4) E) := Hid.mk ((VT.out.kept f5 (by simp)).kept ((Fr.refl [g3] w5).setCell _ _ (by simp)) (fun g hg cur ty e => (by simp at hg; subst hg; rw [f5.same (by simp) HG3.out] at e; cases e; exact ⟨by decide, by decide⟩)))
            have F5 : Hid (Fr [] w (w5.setCell ⟨g3, j * 4 + 2, none⟩ (.string SV))) := Hid.mk ((FR.out.trans f5).setCell _ _ (fun h => absurd h (Nat.not_lt.2 hB3)))
            clear cu3 ct f5
            go_wp2_with fail
            exact ⟨⟨j + 1, _, by omega, by go_num, R5, Hid.mk (by rw [setV_len]; exact RL.out), V5, F5⟩, by simp [RowKit.intOf]; omega⟩
          · obtain rfl : j = m := by omega
            go_wp2_with fail
            go_ret
            exact ⟨_, t4, rfl, (by have := RL.out; subst this; exact ROW.out), (by rw [RL.out]; omega), FR.out⟩
end Go.Proofs.YtdfgmdddnehocabGreatDoor

