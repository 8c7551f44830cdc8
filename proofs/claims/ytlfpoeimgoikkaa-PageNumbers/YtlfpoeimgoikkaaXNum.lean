/-
  PageNumbers: all that it asks by written numbers.
-/
import Derived.Test.YtlfpoeimgoikkaaGTell
import Derived.Test.YtlfpoeimgoikkaaGDiffsL
import Derived.Test.YtlfpoeimgoikkaaGLivesL
import Derived.Test.YtlfpoeimgoikkaaGTellsL
import Derived.Test.YtlfpoeimgoikkaaGDiffsW
import Derived.Deep.CutRange
namespace Go.Proofs.Ytlfpoeimgoikkaa
open Go.RowKit Go.Maps

def sp (n : Nat) : List (List UInt8) := List.replicate n []
theorem sp_length (n : Nat) : (sp n).length = n := by simp [sp]
theorem elen_sp : ∀ n, elen (sp n) = 2 * n
  | 0 => rfl
  | n + 1 => by
    have := elen_sp n
    unfold sp at this ⊢
    rw [List.replicate_succ, elen_cons, this]
    simp
    omega
theorem ins_sp (n : Nat) : insC (sp n) n [] = sp (n + 1) := by
  unfold insC sp
  rw [List.take_of_length_le (by simp), List.drop_of_length_le (by simp), List.replicate_succ']
theorem pg_sp (x n : Nat) (hn : n ≤ 253) (hx : x < 4294967296) : Pg (pgB 0 x (sp n)) 0 x (sp n) := ⟨rfl, by rw [elen_sp]; omega, hx⟩
theorem room_pg {l : List UInt8} {k : UInt8} {x : Nat} {cs : List (List UInt8)} (pg : Pg l k x cs) : roomOf l = 506 - elen cs := by
  unfold roomOf
  rw [pg.ok, pg.end]
  have := pg.fits
  simp
  omega
theorem cells_pg {l : List UInt8} {k : UInt8} {x : Nat} {cs : List (List UInt8)} (pg : Pg l k x cs) : cellsOf l = cs := cells_some pg.page
theorem next_pg {l : List UInt8} {k : UInt8} {x : Nat} {cs : List (List UInt8)} (pg : Pg l k x cs) : nextOf l = x := by
  unfold nextOf
  rw [pg.ok, pg.next]
  rfl
theorem dwalk_self (a : List UInt8) : ∀ i, dwalk a a i = ([], 0, 0)
  | 0 => rfl
  | i + 1 => by simp [dwalk, dwalk_self a i]
theorem dd_self (a : List UInt8) : dd a a = [] := by
  unfold dd
  split
  · simp [diffS, spansOf, dwalk_self]
  · rfl
def gapL (g : Nat) : List UInt8 := ((((List.replicate 512 0).set 0 1).set (g + 1) 2).set 511 3).set (510 - g) 4
theorem gapL_length (g : Nat) : (gapL g).length = 512 := by unfold gapL; simp only [List.length_set, List.length_replicate]
theorem byteAt_rep (j : Nat) : byteAt (List.replicate 512 0) j = 0 := by
  unfold byteAt
  rw [List.getD_eq_getElem?_getD, List.getElem?_replicate]
  split <;> rfl
theorem byteAt_gap (g j : Nat) (h : g < 12) : byteAt (gapL g) j = if j = 510 - g then 4 else if j = 511 then 3 else if j = g + 1 then 2 else if j = 0 then 1 else 0 := by
  unfold gapL
  rw [byteAt_set _ _ _ _ (by simp only [List.length_set, List.length_replicate]; omega), byteAt_set _ _ _ _ (by simp only [List.length_set, List.length_replicate]; omega), byteAt_set _ _ _ _ (by simp only [List.length_set, List.length_replicate]; omega), byteAt_set _ _ _ _ (by simp only [List.length_replicate]; omega), byteAt_rep]
theorem dwalk_skip (a b : List UInt8) (i k : Nat) (h : ∀ j, i ≤ j → j < i + k → byteAt a j = byteAt b j) : dwalk a b (i + k) = dwalk a b i := by
  induction k with
  | zero => rfl
  | succ k ih =>
    rw [← Nat.add_assoc]
    show (let s := dwalk a b (i + k); if byteAt a (i + k) = byteAt b (i + k) then s else _) = _
    rw [if_pos (h _ (by omega) (by omega))]
    exact ih (fun j h1 h2 => h j h1 (by omega))
theorem dwalk_at (a b : List UInt8) (i : Nat) (s : List (Nat × Nat) × Nat × Nat) (hs : dwalk a b i = s) (h : byteAt a i ≠ byteAt b i) :
    dwalk a b (i + 1) = if s.2.2 = 0 then (s.1, i, i + 1) else if 7 < i - s.2.2 then (s.1 ++ [(s.2.1, s.2.2)], i, i + 1) else (s.1, s.2.1, i + 1) := by
  show (let s := dwalk a b i; if byteAt a i = byteAt b i then s else _) = _
  rw [if_neg h, hs]
theorem gap_dd (g : Nat) (h : g < 12) : (dd (List.replicate 512 0) (gapL g)).length = if g < 8 then 2 else 4 := by
  unfold dd
  rw [if_pos ⟨List.length_replicate, gapL_length g⟩]
  have eq : ∀ j, j ≠ 510 - g → j ≠ 511 → j ≠ g + 1 → j ≠ 0 → byteAt (List.replicate 512 0) j = byteAt (gapL g) j := by
    intro j h1 h2 h3 h4
    rw [byteAt_rep, byteAt_gap g j h, if_neg h1, if_neg h2, if_neg h3, if_neg h4]
  have n0 : byteAt (List.replicate 512 0) 0 ≠ byteAt (gapL g) 0 := by
    rw [byteAt_rep, byteAt_gap g 0 h, if_neg (by omega), if_neg (by omega), if_neg (by omega), if_pos rfl]; decide
  have n1 : byteAt (List.replicate 512 0) (g + 1) ≠ byteAt (gapL g) (g + 1) := by
    rw [byteAt_rep, byteAt_gap g (g + 1) h, if_neg (by omega), if_neg (by omega), if_pos rfl]; decide
  have n2 : byteAt (List.replicate 512 0) (510 - g) ≠ byteAt (gapL g) (510 - g) := by
    rw [byteAt_rep, byteAt_gap g (510 - g) h, if_pos rfl]; decide
  have n3 : byteAt (List.replicate 512 0) 511 ≠ byteAt (gapL g) 511 := by
    rw [byteAt_rep, byteAt_gap g 511 h, if_neg (by omega), if_pos rfl]; decide
  generalize gapL g = b at *
  generalize List.replicate 512 (0 : UInt8) = a at *
  have d1 : dwalk a b 1 = ([], 0, 1) := by
    have := dwalk_at a b 0 ([], 0, 0) rfl n0
    simpa using this
  have d2 : dwalk a b (g + 1) = ([], 0, 1) := by
    have := dwalk_skip a b 1 g (fun j h1 h2 => eq j (by omega) (by omega) (by omega) (by omega))
    rw [Nat.add_comm g 1, this, d1]
  have s2 : 510 - g = (g + 2) + (508 - 2 * g) := by omega
  have s3 : (511 : Nat) = (511 - g) + g := by omega
  have e5 : ∀ X, dwalk a b (511 - g) = X → dwalk a b 511 = X := by
    intro X hX
    have := dwalk_skip a b (511 - g) g (fun j h1 h2 => eq j (by omega) (by omega) (by omega) (by omega))
    rw [← s3, hX] at this
    exact this
  have e4 : ∀ X, dwalk a b (g + 2) = X → dwalk a b (510 - g) = X := by
    intro X hX
    have := dwalk_skip a b (g + 2) (508 - 2 * g) (fun j h1 h2 => eq j (by omega) (by omega) (by omega) (by omega))
    rw [← s2, hX] at this
    exact this
  have s4 : 510 - g + 1 = 511 - g := by omega
  unfold diffS spansOf
  by_cases hg : g < 8
  · have d3 : dwalk a b (g + 2) = ([], 0, g + 2) := by
      have := dwalk_at a b (g + 1) _ d2 n1
      rw [if_neg (by simp), if_neg (by simp; omega)] at this
      exact this
    have d4 := dwalk_at a b (510 - g) _ (e4 _ d3) n2
    rw [if_neg (by simp), if_pos (by simp; omega), s4] at d4
    have d6 := dwalk_at a b 511 _ (e5 _ d4) n3
    rw [if_neg (by simp; omega), if_neg (by simp; omega)] at d6
    rw [if_pos hg, d6, if_neg (by simp)]
    rfl
  · have d3 : dwalk a b (g + 2) = ([(0, 1)], g + 1, g + 2) := by
      have := dwalk_at a b (g + 1) _ d2 n1
      rw [if_neg (by simp), if_pos (by simp; omega)] at this
      exact this
    have d4 := dwalk_at a b (510 - g) _ (e4 _ d3) n2
    rw [if_neg (by simp), if_pos (by simp; omega), s4] at d4
    have d6 := dwalk_at a b 511 _ (e5 _ d4) n3
    rw [if_neg (by simp; omega), if_pos (by simp; omega)] at d6
    rw [if_neg hg, d6, if_neg (by simp)]
    rfl
end Go.Proofs.Ytlfpoeimgoikkaa

namespace Go.Proofs.Ytlfpoeimgoikkaa
open Go.RowKit Go.Maps

section
variable {ops : Array Oper} {rest : List Oper} {o : Oper} {a : Act} {w : World} {Q : Exit → Act → World → Prop}
theorem run_makeB (w : World) (n : Nat) (hn : n ≤ 16777216) : (Instr.makeSlice 22 (.int .i64 (n : Int)) (.int .i64 (n : Int))).run Try.prog w = .ok (.slice (some ⟨w.heap.size, 0, none⟩) n n) (w.alloc (.cells (arr (List.replicate n 0)) 5)) := by
  obtain ⟨i, hi, hz, hs, hb⟩ := info5'
  have hrun := run_makeSlice (P := Try.prog) w 22 5 i (.int .u8 0) Try.underlying22 hi hz .i64 .i64 (n : Int) (n : Int) (by omega) (by omega) (by rw [hs]; simpa using hn) (by rw [hb]; omega) (by omega)
  rw [hs, Int.toNat_natCast, Nat.mul_one, arr_zeros] at hrun
  exact hrun
/-- make, guarded. -/
theorem wp_makeW (hw : Region.wanted o (yielded ops a.tmps) = true) (x y : Operand) (ho : o.op = .makeSlice 22 x y) (n : Nat) (hx : a.eval x = .int .i64 (n : Int)) (hy : a.eval y = .int .i64 (n : Int)) (hn : n ≤ 16777216)
    (h : ∀ w' g, w.heap.size ≤ g → Blk w' g (List.replicate n 0) → Fr [] w w' → wpList Try.prog ops Q rest (a.put o.dst (.slice (some ⟨g, 0, none⟩) n n)) w') : wpList Try.prog ops Q (o :: rest) a w :=
  Go.BigFrame.wpList_want hw fun K hK => by
    unfold Oper.wp execOp
    simp [ho, hx, hy, run_makeB w n hn, Result.andThen]
    exact hK _ _ (h _ _ (Nat.le_refl _) (heap_alloc_new w _) ((Fr.refl _ _).alloc _))
/-- make, as a step of a region that draws its order. -/
theorem step_make {K : Act → World → Prop} {E : Prop} (hgd : o.guard = none) (x y : Operand) (ho : o.op = .makeSlice 22 x y) (n : Nat) (hx : a.eval x = .int .i64 (n : Int)) (hy : a.eval y = .int .i64 (n : Int)) (hn : n ≤ 16777216)
    (h : ∀ w' g, w.heap.size ≤ g → Blk w' g (List.replicate n 0) → Fr [] w w' → K (a.put o.dst (.slice (some ⟨g, 0, none⟩) n n)) w') :
    if Region.wanted o (yielded ops a.tmps) = true then Oper.wp Try.prog o a w K Q else E := by
  have hw : Region.wanted o (yielded ops a.tmps) = true := by simp [Region.wanted, hgd]
  rw [if_pos hw]
  unfold Oper.wp
  simp [execOp, ho, hx, hy, run_makeB w n hn, Result.andThen]
  exact h _ _ (Nat.le_refl _) (heap_alloc_new w _) ((Fr.refl _ _).alloc _)
end

/-- A list of the table. -/
def El (w : World) (v : Value) : Prop := v = .slice none 0 0 ∨ ∃ b l n, v = .slice (some ⟨b, 0, none⟩) n n ∧ l.length = n ∧ Blk w b l ∧ n ≤ 5000
theorem El.kept {w w' : World} {v : Value} {L : List Nat} (h : El w v) (f : Fr L w w') (hL : ∀ g ∈ L, ∃ cur t, w.heap[g]? = some (.cells cur t) ∧ t ≠ 5) : El w' v := by
  rcases h with h | ⟨b, l, n, h1, h2, h3, h4⟩
  · exact Or.inl h
  · refine Or.inr ⟨b, l, n, h1, h2, h3.kept f (fun hm => ?_), h4⟩
    obtain ⟨cur, t, e1, e2⟩ := hL b hm
    unfold Blk at h3
    rw [h3] at e1
    simp at e1
    exact e2 e1.2.symm
theorem El.kept0 {w w' : World} {v : Value} (h : El w v) (f : Fr [] w w') : El w' v := h.kept f (by simp)
theorem El.some {w : World} {b n : Nat} {l : List UInt8} (h : Blk w b l) (hl : l.length = n) (hn : n ≤ 5000) : El w (.slice (some ⟨b, 0, none⟩) n n) := Or.inr ⟨b, l, n, rfl, hl, h, hn⟩
theorem El.sl {w : World} {v : Value} (h : El w v) : ∃ ad n l, v = .slice ad n n ∧ SlAt w ad n n l ∧ n ≤ 5000 ∧ (ad = none → n = 0) := by
  rcases h with h | ⟨b, l, n, h1, h2, h3, h4⟩
  · exact ⟨none, 0, [], h, ⟨rfl, BytesAt.nil _ _, Nat.le_refl _⟩, by omega, fun _ => rfl⟩
  · subst h2
    exact ⟨_, _, l, h1, ⟨rfl, h3.bytes, Nat.le_refl _⟩, h4, fun e => nomatch e⟩

/-- A table of lists, new since B. -/
structure Tb (B : Nat) (w : World) (ad : Option Addr) (n c : Nat) (vs : List Value) : Prop where
  own : w.ownsRow B 22 1 (.slice ad n c) n vs
  els : ∀ v ∈ vs, El w v
theorem RowB.keptT {w w' : World} {g c B : Nat} {l : List UInt8} {L : List Nat} (h : RowB w g c l) (f : Fr L w w') (hL : ∀ j ∈ L, B ≤ j ∧ ∃ cur t, w.heap[j]? = some (.cells cur t) ∧ t ≠ 5) : RowB w' g c l := by
  refine h.kept f (fun hm => ?_)
  obtain ⟨_, cur, t, e1, e2⟩ := hL g hm
  obtain ⟨tl, h1, _⟩ := h
  rw [h1] at e1
  simp at e1
  exact e2 e1.2.symm
theorem own_kept0 {B : Nat} {w w' : World} {e : TypeId} {v : Value} {n : Nat} {xs : List Value} (h : w.ownsRow B e 1 v n xs) (f : Fr [] w w') : w'.ownsRow B e 1 v n xs := by
  obtain ⟨h1, h2⟩ := h
  refine ⟨h1, ?_⟩
  rcases h2 with hn | ⟨g, cap, cur, hv, hb, hg, r⟩
  · exact Or.inl hn
  · exact Or.inr ⟨g, cap, cur, hv, hb, f.same (by simp) hg, r⟩
theorem own_kept1 {B : Nat} {w w' : World} {e : TypeId} {v : Value} {n b : Nat} {l : List UInt8} {xs : List Value} (h : w.ownsRow B e 1 v n xs) (f : Fr [b] w w') (hb : Blk w b l) (he : e ≠ 5) : w'.ownsRow B e 1 v n xs := by
  obtain ⟨h1, h2⟩ := h
  refine ⟨h1, ?_⟩
  rcases h2 with hn | ⟨g, cap, cur, hv, hb', hg, r⟩
  · exact Or.inl hn
  · refine Or.inr ⟨g, cap, cur, hv, hb', f.same (fun hm => ?_) hg, r⟩
    simp at hm
    subst hm
    unfold Blk at hb
    rw [hb] at hg
    simp at hg
    exact he hg.2.symm
theorem Tb.kept0 {B : Nat} {w w' : World} {ad : Option Addr} {n c : Nat} {vs : List Value} (h : Tb B w ad n c vs) (f : Fr [] w w') : Tb B w' ad n c vs := ⟨own_kept0 h.own f, fun v hv => (h.els v hv).kept0 f⟩
theorem Tb.len {B : Nat} {w : World} {ad : Option Addr} {n c : Nat} {vs : List Value} (h : Tb B w ad n c vs) : vs.length = n := by have := h.own.1; omega
theorem Tb.at {B : Nat} {w : World} {ad : Option Addr} {n c : Nat} {vs : List Value} (h : Tb B w ad n c vs) (i : Nat) (hi : i < n) : ∃ g v, ad = some ⟨g, 0, none⟩ ∧ w.cell? ⟨g, i, none⟩ = some v ∧ El w v := by
  have hl := h.len
  rcases h.own.2 with ⟨_, h0⟩ | ⟨g, cap, cur, hv, hb, hg, hcap, hmx, hsz, htk⟩
  · omega
  · cases hv
    refine ⟨g, vs[i], rfl, ?_, h.els _ (List.getElem_mem _)⟩
    rw [cell_of_row w g i _ _ _ hg]
    have h2 : vs[i]? = some vs[i] := List.getElem?_eq_getElem _
    rw [← h2, ← htk, List.getElem?_take]
    simp
    intro hh
    omega
section
variable {ops : Array Oper} {rest : List Oper} {o : Oper} {a : Act} {w : World} {Q : Exit → Act → World → Prop}
/-- append of one list to a table. -/
theorem wp_appT (hgd : o.guard = none) (s x : Operand) (ho : o.op = .call { callee := .builtin .append, args := #[s, x], argTypes := #[30, 30] }) (B : Nat) (ad : Option Addr) (n c : Nat) (vs : List Value) (b : Nat) (v : Value) (hs : a.eval s = .slice ad n c) (hx : a.eval x = .slice (some ⟨b, 0, none⟩) 1 1)
    (ht : Tb B w ad n c vs) (hb : w.heap[b]? = some (.cells #[v] 22)) (hv : El w v) (hB : B ≤ w.heap.size) (hm : n + 1 ≤ 100000)
    (h : ∀ g c' w' L, Tb B w' (some ⟨g, 0, none⟩) (n + 1) c' (vs ++ [v]) → Fr L w w' → (∀ j ∈ L, B ≤ j ∧ ∃ cur t, w.heap[j]? = some (.cells cur t) ∧ t ≠ 5) → wpList Try.prog ops Q rest (a.put o.dst (.slice (some ⟨g, 0, none⟩) (n + 1) c')) w') : wpList Try.prog ops Q (o :: rest) a w :=
  wpList_plain hgd fun K hK => by
    obtain ⟨i, hi, hz, hsz, hbb⟩ := infoS'
    have h1v : v.oneCell' = true := by rcases hv with e | ⟨_, _, _, e, _⟩ <;> (subst e; rfl)
    obtain ⟨v', w', hrun, h2, h3, h4, h5⟩ := run_append_own_at (P := Try.prog) w B 30 o.type 22 i (.slice none 0 0) 1 24 Try.underlying30 hi hz hsz hbb rfl (by omega) _ n vs ht.own ⟨b, 0, none⟩ 1 1 [v] (by simp)
      (by
        intro j x hx
        cases j with
        | zero =>
          simp at hx
          subst hx
          rw [Addr.add_mid]
          exact cell_of_row w b 0 _ _ _ hb
        | succ j => simp at hx) (by intro x hx; simp at hx; subst hx; exact h1v) (by unfold maxLen; omega) (by omega) hB
    rcases h2.2 with ⟨e, hn0⟩ | ⟨g, c', cur, e, r⟩
    · omega
    · subst e
      have hL : ∀ j ∈ (Value.ownBlock (.slice ad n c)).toList, B ≤ j ∧ ∃ cur t, w.heap[j]? = some (.cells cur t) ∧ t ≠ 5 := by
        intro j hj
        rcases ht.own.2 with ⟨hn, _⟩ | ⟨g', cap, cur', hv', hb', hg', r'⟩
        · cases hn
          simp [Value.ownBlock] at hj
        · cases hv'
          simp [Value.ownBlock] at hj
          subst hj
          exact ⟨hb', cur', _, hg', by decide⟩
      have f3 : Fr (Value.ownBlock (.slice ad n c)).toList w w' := (Fr.refl _ _).grown h3 (fun j e _ => by simp [e])
      unfold Oper.wp execOp
      simp [ho, resolve, invoke, builtin, hs, hx, hrun, Result.andThen]
      refine hK _ _ (h _ _ _ _ ⟨h2, fun u hu => ?_⟩ f3 hL)
      rcases List.mem_append.1 hu with hu | hu
      · exact (ht.els u hu).kept f3 (fun j hj => (hL j hj).2)
      · simp at hu
        subst hu
        exact hv.kept f3 (fun j hj => (hL j hj).2)
end
end Go.Proofs.Ytlfpoeimgoikkaa

namespace Go.Proofs.Ytlfpoeimgoikkaa
open Go.RowKit Go.Maps

theorem insert_fullI (w : World) (g : Nat) (k : UInt8) (x : Nat) (cs : List (List UInt8)) (s : Nat) (S : Int) (hS : S = (s : Int)) (ad : Option Addr) (n nc : Nat) (h : RowB w g 512 (pgB k x cs)) (pg : Pg (pgB k x cs) k x cs) (hs : s ≤ cs.length) (hn : n ≤ 1000000) (hr : 506 < elen cs + 2 + n) :
    Calls Try.prog 24 #[.slice (some ⟨g, 0, none⟩) 512 512, .int .i64 S, .slice ad n nc] w fun r w' => r = .returned (.int .i64 5) ∧ w' = w := by
  subst hS
  exact insert_full w g 512 _ k x cs s ad n nc h pg hs hn hr
theorem insert_okC (w : World) (g : Nat) (k : UInt8) (x : Nat) (cs : List (List UInt8)) (s : Nat) (S : Int) (hS : S = (s : Int)) (ad : Option Addr) (n nc : Nat) (cell : List UInt8) (h : RowB w g 512 (pgB k x cs)) (pg : Pg (pgB k x cs) k x cs) (hs : s ≤ cs.length)
    (hcl : cell.length = n) (hcb : BytesAt w ad cell) (hr : elen cs + 2 + n ≤ 506) (ds : List (List UInt8)) (hd : insC cs s cell = ds) :
    Calls Try.prog 24 #[.slice (some ⟨g, 0, none⟩) 512 512, .int .i64 S, .slice ad n nc] w fun r w' => r = .returned (.int .i64 0) ∧ RowB w' g 512 (pgB k x ds) ∧ Fr [g] w w' := by
  subst hS hd
  exact insert_ok w g 512 _ k x cs s ad n nc cell h pg hs hcl hcb hr
theorem insert_argC (w : World) (g : Nat) (k : UInt8) (x : Nat) (cs : List (List UInt8)) (s : Int) (v : Value) (h : RowB w g 512 (pgB k x cs)) (pg : Pg (pgB k x cs) k x cs) (hs : s < 0 ∨ (cs.length : Int) < s) :
    Calls Try.prog 24 #[.slice (some ⟨g, 0, none⟩) 512 512, .int .i64 s, v] w fun r w' => r = .returned (.int .i64 2) ∧ w' = w := insert_arg w g 512 _ k x cs s v h pg hs
theorem insert_nil (w : World) (s : Int) (v : Value) :
    Calls Try.prog 24 #[.slice none 0 0, .int .i64 s, v] w fun r w' => r = .returned (.int .i64 4) ∧ w' = w := insert_shape w none 0 0 [] s v ⟨rfl, BytesAt.nil _ _, Nat.le_refl _⟩ rfl
theorem delete_okC (w : World) (g : Nat) (k : UInt8) (x : Nat) (cs : List (List UInt8)) (s : Nat) (S : Int) (hS : S = (s : Int)) (h : RowB w g 512 (pgB k x cs)) (pg : Pg (pgB k x cs) k x cs) (hs : s < cs.length) (ds : List (List UInt8)) (hd : delC cs s = ds) :
    Calls Try.prog 26 #[.slice (some ⟨g, 0, none⟩) 512 512, .int .i64 S] w fun r w' => r = .returned (.bool true) ∧ RowB w' g 512 (pgB k x ds) ∧ Fr [g] w w' := by
  subst hS hd
  exact delete_ok w g 512 _ k x cs s h pg hs
theorem delete_noC (w : World) (g : Nat) (k : UInt8) (x : Nat) (cs : List (List UInt8)) (s : Int) (h : RowB w g 512 (pgB k x cs)) (pg : Pg (pgB k x cs) k x cs) (hs : s < 0 ∨ (cs.length : Int) ≤ s) :
    Calls Try.prog 26 #[.slice (some ⟨g, 0, none⟩) 512 512, .int .i64 s] w fun r w' => r = .returned (.bool false) ∧ w' = w := delete_no w g 512 _ k x cs s h pg hs
theorem row_sl {w : World} {g : Nat} {l : List UInt8} {k : UInt8} {x : Nat} {cs : List (List UInt8)} (h : RowB w g 512 l) (pg : Pg l k x cs) : SlAt w (some ⟨g, 0, none⟩) 512 512 l := by
  have := h.sl
  rwa [pg.len] at this
theorem room_is (w : World) (g : Nat) (k : UInt8) (x : Nat) (cs : List (List UInt8)) (h : RowB w g 512 (pgB k x cs)) (pg : Pg (pgB k x cs) k x cs) (N : Int) (hN : N = ((506 - elen cs : Nat) : Int)) :
    Calls Try.prog 25 #[.slice (some ⟨g, 0, none⟩) 512 512] w fun r w' => r = .returned (.int .i64 N) ∧ w' = w := by
  have := room_any w _ _ _ _ (row_sl h pg)
  rw [room_pg pg, ← hN] at this
  exact this
theorem count_is (w : World) (g : Nat) (k : UInt8) (x : Nat) (cs : List (List UInt8)) (h : RowB w g 512 (pgB k x cs)) (pg : Pg (pgB k x cs) k x cs) (N : Int) (hN : N = ((cs.length : Nat) : Int)) :
    Calls Try.prog 27 #[.slice (some ⟨g, 0, none⟩) 512 512] w fun r w' => r = .returned (.int .i64 N) ∧ w' = w := by
  have := count_any w _ _ _ _ (row_sl h pg)
  rw [cells_pg pg, ← hN] at this
  exact this
theorem next_is (w : World) (g : Nat) (k : UInt8) (x : Nat) (cs : List (List UInt8)) (h : RowB w g 512 (pgB k x cs)) (pg : Pg (pgB k x cs) k x cs) (N : Int) (hN : N = ((x : Nat) : Int)) :
    Calls Try.prog 29 #[.slice (some ⟨g, 0, none⟩) 512 512] w fun r w' => r = .returned (.int .i64 N) ∧ w' = w := by
  have := next_any w _ _ _ _ (row_sl h pg)
  rw [next_pg pg, ← hN] at this
  exact this
theorem setNext_yesC (w : World) (g : Nat) (k : UInt8) (x y : Nat) (Y : Int) (hY : Y = (y : Int)) (cs : List (List UInt8)) (h : RowB w g 512 (pgB k x cs)) (pg : Pg (pgB k x cs) k x cs) (hy : y < 4294967296) :
    Calls Try.prog 28 #[.slice (some ⟨g, 0, none⟩) 512 512, .int .i64 Y] w fun r w' => r = .returned (.bool true) ∧ RowB w' g 512 (pgB k y cs) ∧ Fr [g] w w' := by
  subst hY
  exact setNext_yes w g 512 _ k x y cs h pg hy
theorem setNext_noC (w : World) (g : Nat) (k : UInt8) (x : Nat) (Y : Int) (cs : List (List UInt8)) (h : RowB w g 512 (pgB k x cs)) (pg : Pg (pgB k x cs) k x cs) (hy : Y < 0 ∨ 4294967295 < Y) :
    Calls Try.prog 28 #[.slice (some ⟨g, 0, none⟩) 512 512, .int .i64 Y] w fun r w' => r = .returned (.bool false) ∧ w' = w := setNext_no w _ _ _ _ Y (row_sl h pg) (Or.inr hy)
theorem diff_len_is (w : World) (g1 g2 : Nat) (la lb : List UInt8) (h1 : SlAt w (some ⟨g1, 0, none⟩) 512 512 la) (h2 : SlAt w (some ⟨g2, 0, none⟩) 512 512 lb) (N : Nat) (hN : (dd la lb).length = N) :
    Calls Try.prog 19 #[.slice (some ⟨g1, 0, none⟩) 512 512, .slice (some ⟨g2, 0, none⟩) 512 512] w fun r w' => ∃ AD CAP, r = .returned (.slice AD N CAP) ∧ Fr [] w w' := by
  refine (diff_any w g1 512 512 g2 512 512 la lb h1 h2).mono ?_
  rintro r w' ⟨AD, N', CAP, S, rfl, d⟩
  have e1 := d.len
  have e2 : S.length = (dd la lb).length := by rw [← d.map, List.length_map]
  obtain rfl : N' = N := by omega
  exact ⟨AD, CAP, rfl, d.fr⟩
theorem tb_three (B : Nat) (W1 : World) (N : Nat) (hN : W1.heap.size = N) (v1 v2 : Value) (h1 : El W1 v1) (h2 : El W1 v2) (hB : B ≤ W1.heap.size) :
    Tb B (W1.alloc (.cells #[.slice none 0 0, v1, v2] 22)) (some ⟨N, 0, none⟩) 3 3 [.slice none 0 0, v1, v2] := by
  subst hN
  refine ⟨⟨rfl, Or.inr ⟨W1.heap.size, 3, _, rfl, hB, heap_alloc_new _ _, Nat.le_refl _, by unfold maxLen; omega, rfl, rfl⟩⟩, fun v hv => ?_⟩
  simp at hv
  have f := (Fr.refl [] W1).alloc (.cells #[.slice none 0 0, v1, v2] 22)
  rcases hv with rfl | rfl | rfl
  · exact Or.inl rfl
  · exact h1.kept0 f
  · exact h2.kept0 f
theorem size_alloc (w : World) (o : Obj) : (w.alloc o).heap.size = w.heap.size + 1 := Array.size_push ..
theorem el_new (w : World) (l : List UInt8) (n N : Nat) (hN : w.heap.size = N) (hl : l.length = n) (hn : n ≤ 5000) : El (w.alloc (.cells (arr l) 5)) (.slice (some ⟨N, 0, none⟩) n n) := by
  subst hN
  exact El.some (heap_alloc_new w _) hl hn
theorem size_set (w : World) (a : Addr) (v : Value) : (w.setCell a v).heap.size = w.heap.size := by simp
theorem alloc_at (W : World) (o : Obj) (N : Nat) (hN : W.heap.size = N) : (W.alloc o).heap[N]? = some o := by
  subst hN
  exact heap_alloc_new W o
abbrev rowO (g : Nat) : Obj := .cells #[.slice (some ⟨g, 0, none⟩) 512 512] 22
theorem stored1 (w0 w5 : World) (g : Nat) (l : List UInt8) (hl : l.length = 512) (b : Blk w5 g l) (f : Fr [] w0 w5) (hg : w0.heap.size ≤ g) (i : Nat) (x : UInt8) (X : Int) (hX : X = x.toNat) :
    Fr [] w0 ((w5.setCell ⟨g, i, none⟩ (.int .u8 X)).alloc (rowO g)) ∧ El ((w5.setCell ⟨g, i, none⟩ (.int .u8 X)).alloc (rowO g)) (.slice (some ⟨g, 0, none⟩) 512 512) ∧ ((w5.setCell ⟨g, i, none⟩ (.int .u8 X)).alloc (rowO g)).heap[w5.heap.size]? = some (rowO g) := by
  subst hX
  have b1 := b.set i x
  have f1 := f.setCell ⟨g, i, none⟩ (.int .u8 x.toNat) (fun h => absurd h (Nat.not_lt.2 hg))
  refine ⟨f1.alloc _, (El.some b1 (by rw [List.length_set]; exact hl) (by omega)).kept0 ((Fr.refl _ _).alloc _), alloc_at _ _ _ (size_set _ _ _)⟩
theorem stored3 (w0 w5 : World) (g : Nat) (l : List UInt8) (hl : l.length = 512) (b : Blk w5 g l) (f : Fr [] w0 w5) (hg : w0.heap.size ≤ g) (i : Nat) (x : UInt8) (X : Int) (hX : X = x.toNat) (j : Nat) (y : UInt8) (Y : Int) (hY : Y = y.toNat) (k : Nat) (z : UInt8) (Z : Int) (hZ : Z = z.toNat) :
    Fr [] w0 ((((w5.setCell ⟨g, i, none⟩ (.int .u8 X)).setCell ⟨g, j, none⟩ (.int .u8 Y)).setCell ⟨g, k, none⟩ (.int .u8 Z)).alloc (rowO g)) ∧ El ((((w5.setCell ⟨g, i, none⟩ (.int .u8 X)).setCell ⟨g, j, none⟩ (.int .u8 Y)).setCell ⟨g, k, none⟩ (.int .u8 Z)).alloc (rowO g)) (.slice (some ⟨g, 0, none⟩) 512 512) ∧ ((((w5.setCell ⟨g, i, none⟩ (.int .u8 X)).setCell ⟨g, j, none⟩ (.int .u8 Y)).setCell ⟨g, k, none⟩ (.int .u8 Z)).alloc (rowO g)).heap[w5.heap.size]? = some (rowO g) := by
  subst hX hY hZ
  have f1 := (f.setCell ⟨g, i, none⟩ (.int .u8 x.toNat) (fun h => absurd h (Nat.not_lt.2 hg))).setCell ⟨g, j, none⟩ (.int .u8 y.toNat) (fun h => absurd h (Nat.not_lt.2 hg))
  have h := stored1 w0 _ g ((l.set i x).set j y) (by rw [List.length_set, List.length_set]; exact hl) ((b.set i x).set j y) f1 hg k z _ rfl
  rw [size_set, size_set] at h
  exact h
def theDos (g : Nat) : List DoV := [⟨0, 0, 0, some ⟨g, 0, none⟩, 1, 1, [5]⟩, ⟨3, 0, 0, none, 0, 0, []⟩, ⟨4, 0, 3, none, 0, 0, []⟩]
abbrev doO (g : Nat) : Obj := .cells #[.int .i64 0, .int .i64 0, .int .i64 0, .slice (some ⟨g, 0, none⟩) 1 1, .int .i64 3, .int .i64 0, .int .i64 0, .slice none 0 0, .int .i64 4, .int .i64 0, .int .i64 3, .slice none 0 0] 34
theorem dos_at (W : World) (g N : Nat) (hN : (W.alloc (.cells #[.int .u8 5] 5)).heap.size = N) (hg : W.heap.size = g) :
    DosAt ((W.alloc (.cells #[.int .u8 5] 5)).alloc (doO g)) (some ⟨N, 0, none⟩) (theDos g) := by
  subst hN hg
  have hb : Blk ((W.alloc (.cells #[.int .u8 5] 5)).alloc (doO W.heap.size)) W.heap.size [5] := Blk.kept (l := [5]) (heap_alloc_new W _) ((Fr.refl [] _).alloc _) (by simp)
  have hc : ∀ i, ((W.alloc (.cells #[.int .u8 5] 5)).alloc (doO W.heap.size)).cell? ⟨(W.alloc (.cells #[.int .u8 5] 5)).heap.size, i, none⟩ = (#[.int .i64 0, .int .i64 0, .int .i64 0, .slice (some ⟨W.heap.size, 0, none⟩) 1 1, .int .i64 3, .int .i64 0, .int .i64 0, .slice none 0 0, .int .i64 4, .int .i64 0, .int .i64 3, .slice none 0 0] : Array Value)[i]? := fun i => cell_of_row _ _ i _ _ _ (heap_alloc_new _ _)
  intro i d hd
  match i with
  | 0 => cases hd; exact ⟨⟨rfl, rfl, rfl, ⟨rfl, hb.bytes, Nat.le_refl _⟩, fun e => (nomatch e), by show (1 : Nat) < _; omega⟩, _, 0, rfl, hc 0, hc 1, hc 2, hc 3⟩
  | 1 => cases hd; exact ⟨⟨rfl, rfl, rfl, ⟨rfl, BytesAt.nil _ _, Nat.le_refl _⟩, fun _ => rfl, by show (0 : Nat) < _; omega⟩, _, 0, rfl, hc 4, hc 5, hc 6, hc 7⟩
  | 2 => cases hd; exact ⟨⟨rfl, rfl, rfl, ⟨rfl, BytesAt.nil _ _, Nat.le_refl _⟩, fun _ => rfl, by show (0 : Nat) < _; omega⟩, _, 0, rfl, hc 8, hc 9, hc 10, hc 11⟩
  | n + 3 => simp [theDos] at hd
theorem stored4 (w0 w5 : World) (ga g : Nat) (ba : Blk w5 ga (zs 512)) (b : Blk w5 g (zs 512)) (hne : ga ≠ g) (f : Fr [] w0 w5) (hg : w0.heap.size ≤ g) (k i j : Nat) (hi : i = k + 1) (hj : j = 510 - k) (W : World)
    (hW : W = (((w5.setCell ⟨g, 0, none⟩ (.int .u8 1)).setCell ⟨g, i, none⟩ (.int .u8 2)).setCell ⟨g, 511, none⟩ (.int .u8 3)).setCell ⟨g, j, none⟩ (.int .u8 4)) :
    Fr [] w0 W ∧ SlAt W (some ⟨ga, 0, none⟩) 512 512 (zs 512) ∧ SlAt W (some ⟨g, 0, none⟩) 512 512 (gapL k) := by
  subst hi hj hW
  have hn : ∀ (x : Nat), (⟨g, x, none⟩ : Addr).block < w0.heap.size → (⟨g, x, none⟩ : Addr).block ∈ ([] : List Nat) := fun x h => absurd h (Nat.not_lt.2 hg)
  have f4 := (((f.setCell ⟨g, 0, none⟩ (.int .u8 1) (hn 0)).setCell ⟨g, k + 1, none⟩ (.int .u8 2) (hn _)).setCell ⟨g, 511, none⟩ (.int .u8 3) (hn _)).setCell ⟨g, 510 - k, none⟩ (.int .u8 4) (hn _)
  have g4 : Fr [g] w5 _ := (((((Fr.refl [g] w5).setCell ⟨g, 0, none⟩ (.int .u8 1) (fun _ => by simp)).setCell ⟨g, k + 1, none⟩ (.int .u8 2) (fun _ => by simp)).setCell ⟨g, 511, none⟩ (.int .u8 3) (fun _ => by simp)).setCell ⟨g, 510 - k, none⟩ (.int .u8 4) (fun _ => by simp))
  have b4 : Blk _ g (gapL k) := (((b.set 0 1).set (k + 1) 2).set 511 3).set (510 - k) 4
  exact ⟨f4, ⟨zs_length _, (ba.kept g4 (by simpa using hne)).bytes, Nat.le_refl _⟩, ⟨gapL_length k, b4.bytes, Nat.le_refl _⟩⟩
def bigC : List UInt8 := List.replicate 504 0
theorem bigC_length : bigC.length = 504 := List.length_replicate
theorem big_pg : Pg (pgB 0 0 [bigC]) 0 0 [bigC] := ⟨rfl, by rw [elen_cons, bigC_length, elen_nil]; omega, by omega⟩
theorem big_elen : elen [bigC] = 506 := by rw [elen_cons, bigC_length, elen_nil]
end Go.Proofs.Ytlfpoeimgoikkaa

namespace Go.Proofs.Ytlfpoeimgoikkaa
open Go.RowKit Go.Maps

theorem both_blk (w : World) : Blk ((w.alloc (.cells (arr (zs 512)) 5)).alloc (.cells (arr (zs 512)) 5)) w.heap.size (zs 512) ∧ Blk ((w.alloc (.cells (arr (zs 512)) 5)).alloc (.cells (arr (zs 512)) 5)) (w.heap.size + 1) (zs 512) :=
  ⟨Blk.kept (l := zs 512) (heap_alloc_new w _) ((Fr.refl [] _).alloc _) (by simp), alloc_at _ _ _ (size_alloc _ _)⟩
theorem pgl {w w' : World} {g : Nat} {w0 : World} (f : Fr [] w0 w) (f' : Fr [g] w w') (hg : w0.heap.size ≤ g) : Fr [] w0 w' := f.then f' (fun i hi hm => by simp at hm; omega)

set_option maxHeartbeats 2000000 in
set_option maxRecDepth 100000 in
theorem numbers_law (w : World) :
    Calls Try.prog 6 #[] w fun e w' => e = .returned (.bool true) ∧ Fr [] w w' := by
  go_enter Try.func6, Try.ntmps6
  go_wp2_with fail
  refine (new_anyI _ 0 0 rfl).mono ?_
  rintro e w1 ⟨g, rfl, b1, hg, f1⟩
  have hb := b1.row
  rw [pgB_length _ _ _ (by decide)] at hb
  have R1 : Hid (RowB w1 g 512 (pgB 0 0 (sp 0))) := hb
  have F1 := hidI f1
  have PG : Hid (∀ x n, n ≤ 253 → x < 4294967296 → Pg (pgB 0 x (sp n)) 0 x (sp n)) := pg_sp
  clear b1 hb f1
  go_wp2_with (refine wp_make rfl _ _ rfl 505 rfl rfl (by omega) ?_; intro w2 g2 hg2 b2 f2)
  refine (insert_fullI _ g 0 0 (sp 0) 0 0 rfl _ 505 505 (R1.out.kept f2 (by simp)) (PG.out 0 0 (by omega) (by omega)) (by omega) (by omega) (by rw [elen_sp]; omega)).mono ?_
  rintro e w2 ⟨rfl, rfl⟩
  clear b2
  go_wp2_with (refine wp_makeW (by rfl) _ _ rfl 504 rfl rfl (by omega) ?_; intro w3 g3 hg3 b3 f3)
  refine (insert_okC _ g 0 0 (sp 0) 0 0 rfl _ 504 504 bigC (R1.out.kept (f2.trans f3) (by simp)) (PG.out 0 0 (by omega) (by omega)) (by omega) bigC_length b3.bytes (by rw [elen_sp]; omega) [bigC] rfl).mono ?_
  rintro e w4 ⟨rfl, r4, f4⟩
  have R4 := hidI r4
  have F4 := hidI (pgl ((F1.out.trans f2).trans f3) f4 hg)
  clear r4 f4 b3 f3 hg3 f2 hg2 R1 F1
  go_wp2_with fail
  refine (room_is _ g 0 0 [bigC] R4.out big_pg 0 (by rw [big_elen]; rfl)).mono ?_
  rintro e w4 ⟨rfl, rfl⟩
  go_wp2_with fail
  refine (insert_fullI _ g 0 0 [bigC] 1 1 rfl _ 0 0 R4.out big_pg (by simp) (by omega) (by rw [big_elen]; omega)).mono ?_
  rintro e w4 ⟨rfl, rfl⟩
  go_wp2_with fail
  refine (delete_okC _ g 0 0 [bigC] 0 0 rfl R4.out big_pg (by simp) (sp 0) rfl).mono ?_
  rintro e w5 ⟨rfl, r5, f5⟩
  have R5 := hidI r5
  have F5 := hidI (pgl F4.out f5 hg)
  clear r5 f5 R4 F4
  go_wp2_with fail
  refine (room_is _ g 0 0 (sp 0) R5.out (PG.out 0 0 (by omega) (by omega)) 506 (by rw [elen_sp]; rfl)).mono ?_
  rintro e w5 ⟨rfl, rfl⟩
  go_wp2_with fail
  refine (delete_noC _ g 0 0 (sp 0) 0 R5.out (PG.out 0 0 (by omega) (by omega)) (by rw [sp_length]; omega)).mono ?_
  rintro e w5 ⟨rfl, rfl⟩
  go_wp2_with fail
  go_loopw [2] (fun s2 wr => ∃ j : Nat, j ≤ 253 ∧ s2 = .int .i64 (j : Int) ∧ RowB wr g 512 (pgB 0 0 (sp j)) ∧ Fr [] w wr) (fun s2 _ => 253 - (intOf s2).toNat)
  case atStart => exact ⟨0, by omega, rfl, R5.out, F5.out⟩
  case round =>
    obtain ⟨j, hj, rfl, r6, f6⟩ := hrel
    have R6 := hidI r6
    have F6 := hidI f6
    clear r6 f6
    by_cases hlt : j < 253
    · have q : (j : Int) < 253 := by omega
      go_wp2_with fail
      refine (insert_okC _ g 0 0 (sp j) j (j : Int) rfl _ 0 0 [] R6.out (PG.out 0 j (by omega) (by omega)) (by rw [sp_length]; omega) rfl (BytesAt.nil _ _) (by rw [elen_sp]; omega) (sp (j + 1)) (ins_sp j)).mono ?_
      rintro e w7 ⟨rfl, r7, f7⟩
      have f7' := pgl F6.out f7 hg
      go_wp2_with fail
      exact ⟨⟨j + 1, by omega, by go_num, r7, f7'⟩, by simp [intOf]; omega⟩
    · obtain rfl : j = 253 := by omega
      clear hlt hj
      go_wp2_with fail
      refine (insert_fullI _ g 0 0 (sp 253) 253 253 rfl _ 0 0 R6.out (PG.out 0 253 (by omega) (by omega)) (by rw [sp_length]; omega) (by omega) (by rw [elen_sp]; omega)).mono ?_
      rintro e wr ⟨rfl, rfl⟩
      go_wp2_with fail
      refine (count_is _ g 0 0 (sp 253) R6.out (PG.out 0 253 (by omega) (by omega)) 253 (by rw [sp_length]; rfl)).mono ?_
      rintro e wr ⟨rfl, rfl⟩
      go_wp2_with fail
      refine (room_is _ g 0 0 (sp 253) R6.out (PG.out 0 253 (by omega) (by omega)) 0 (by rw [elen_sp]; rfl)).mono ?_
      rintro e wr ⟨rfl, rfl⟩
      go_wp2_with fail
      refine (insert_argC _ g 0 0 (sp 253) (-1) _ R6.out (PG.out 0 253 (by omega) (by omega)) (by omega)).mono ?_
      rintro e wr ⟨rfl, rfl⟩
      go_wp2_with fail
      refine (insert_argC _ g 0 0 (sp 253) 254 _ R6.out (PG.out 0 253 (by omega) (by omega)) (by rw [sp_length]; omega)).mono ?_
      rintro e wr ⟨rfl, rfl⟩
      go_wp2_with fail
      refine (insert_nil _ 0 _).mono ?_
      rintro e wr ⟨rfl, rfl⟩
      go_wp2_with fail
      refine (setNext_yesC _ g 0 0 4294967295 4294967295 rfl (sp 253) R6.out (PG.out 0 253 (by omega) (by omega)) (by omega)).mono ?_
      rintro e w7 ⟨rfl, r7, f7⟩
      have R7 := hidI r7
      have F7 := hidI (pgl F6.out f7 hg)
      clear r7 f7 R6 F6
      go_wp2_with fail
      refine (next_is _ g 0 4294967295 (sp 253) R7.out (PG.out _ 253 (by omega) (by omega)) 4294967295 rfl).mono ?_
      rintro e w7 ⟨rfl, rfl⟩
      go_wp2_with fail
      refine (setNext_noC _ g 0 4294967295 4294967296 (sp 253) R7.out (PG.out _ 253 (by omega) (by omega)) (by omega)).mono ?_
      rintro e w7 ⟨rfl, rfl⟩
      go_wp2_with fail
      refine (setNext_noC _ g 0 4294967295 (-1) (sp 253) R7.out (PG.out _ 253 (by omega) (by omega)) (by omega)).mono ?_
      rintro e w7 ⟨rfl, rfl⟩
      go_wp2_with fail
      refine (next_is _ g 0 4294967295 (sp 253) R7.out (PG.out _ 253 (by omega) (by omega)) 4294967295 rfl).mono ?_
      rintro e w7 ⟨rfl, rfl⟩
      go_upto_region 13 with fail
      go_cut [3] from 104 to 106 (fun s3 wx => ∃ a c vs, s3 = .slice a 3 c ∧ Tb w.heap.size wx a 3 c vs ∧ RowB wx g 512 (pgB 0 4294967295 (sp 253)) ∧ Fr [] w wx)
      case first =>
        have m1 : ∀ w : World, Sem.run Try.prog (Instr.makeSlice 22 (.int .i64 511) (.int .i64 511)) w = Result.ok (.slice (some ⟨w.heap.size, 0, none⟩) 511 511) (w.alloc (.cells (arr (zs 511)) 5)) := fun w => run_makeB w 511 (by omega)
        have m2 : ∀ w : World, Sem.run Try.prog (Instr.makeSlice 22 (.int .i64 513) (.int .i64 513)) w = Result.ok (.slice (some ⟨w.heap.size, 0, none⟩) 513 513) (w.alloc (.cells (arr (zs 513)) 5)) := fun w => run_makeB w 513 (by omega)
        go_region
        all_goals
          go_wp2_with fail
          go_meet
        case rel =>
          refine ⟨_, 3, _, rfl, tb_three w.heap.size ((w7.drew.alloc _).alloc _) _ (by rw [size_alloc, size_alloc]; rfl) _ _ ?_ ?_ (by rw [size_alloc, size_alloc]; have := F7.out.size; show _ ≤ w7.heap.size + 1 + 1; omega), R7.out.kept ((((Fr.refl [] w7).drew.alloc _).alloc _).alloc _) (by simp), ((F7.out.drew.alloc _).alloc _).alloc _⟩
          · exact (el_new w7.drew (zs 511) 511 _ rfl (zs_length _) (by omega)).kept0 ((Fr.refl _ _).alloc _)
          · exact el_new _ (zs 513) 513 _ (size_alloc _ _) (zs_length _) (by omega)
        case rel =>
          refine ⟨_, 3, _, rfl, tb_three w.heap.size ((w7.drew.alloc _).alloc _) _ (by rw [size_alloc, size_alloc]; rfl) _ _ ?_ ?_ (by rw [size_alloc, size_alloc]; have := F7.out.size; show _ ≤ w7.heap.size + 1 + 1; omega), R7.out.kept ((((Fr.refl [] w7).drew.alloc _).alloc _).alloc _) (by simp), ((F7.out.drew.alloc _).alloc _).alloc _⟩
          · exact el_new _ (zs 511) 511 _ (size_alloc _ _) (zs_length _) (by omega)
          · exact (el_new w7.drew (zs 513) 513 _ rfl (zs_length _) (by omega)).kept0 ((Fr.refl _ _).alloc _)
      case rest =>
        obtain ⟨a3, c3, vs3, rfl, t3, r3, f3⟩ := hcut
        have T3 := hidI t3
        have R3 := hidI r3
        have F3 := hidI f3
        clear t3 r3 f3
        go_wp2_with fail
        go_loopw [4, 3] (fun s4 s3 wr => ∃ (k : Nat) (N : Int) (a : Option Addr) (c : Nat) (vs : List Value), k ≤ 5 ∧ N = 503 + (k : Int) ∧ s4 = .int .i64 N ∧ s3 = .slice a (3 + k) c ∧ Tb w.heap.size wr a (3 + k) c vs ∧ RowB wr g 512 (pgB 0 4294967295 (sp 253)) ∧ Fr [] w wr) (fun s4 _ _ => 508 - (intOf s4).toNat)
        case atStart => exact ⟨0, 503, a3, c3, vs3, by omega, rfl, rfl, rfl, T3.out, R3.out, F3.out⟩
        case round =>
          obtain ⟨k, N, a, c, vs, hk, hN, rfl, rfl, t4, r4, f4⟩ := hrel
          have T4 := hidI t4
          have R4 := hidI r4
          have F4 := hidI f4
          clear t4 r4 f4
          by_cases hlt : k < 5
          · have hk5 : k = 0 ∨ k = 1 ∨ k = 2 ∨ k = 3 ∨ k = 4 := by omega
            rcases hk5 with rfl | rfl | rfl | rfl | rfl
            · obtain rfl : N = 503 := by omega
              clear hN hlt hk
              go_wp2_with (first
                | (refine wp_make rfl _ _ rfl 512 rfl rfl (by omega) ?_; intro w5 g5 hg5 b5 f5; have c1 := b5.cell 1 (by simp only [List.length_replicate]; omega); have c6 := b5.cell 6 (by simp only [List.length_replicate]; omega); have c7 := b5.cell 7 (by simp only [List.length_replicate]; omega); have z1 := b5.frozen 1; have z6 := b5.frozen 6; have z7 := b5.frozen 7; have ST := hidI (stored3 wr w5 g5 _ List.length_replicate b5 f5 hg5 1 1 1 rfl 6 1 1 rfl 7 247 247 rfl))
                | (refine wp_appT rfl _ _ rfl w.heap.size a 3 c vs w5.heap.size _ rfl rfl (T4.out.kept0 ST.out.1) ST.out.2.2 ST.out.2.1 (Nat.le_trans F4.out.size ST.out.1.size) (by omega) ?_; intro g6 c6' w6 L6 t6 f6 hL6))
              have f06 : Fr [] w w6 := (F4.out.trans ST.out.1).then f6 (fun i hi hm => by have := (hL6 i hm).1; omega)
              exact ⟨⟨1, 504, _, _, _, by omega, rfl, rfl, rfl, t6, (R4.out.kept ST.out.1 (by simp)).keptT f6 hL6, f06⟩, by simp [intOf]⟩
            · obtain rfl : N = 504 := by omega
              clear hN hlt hk
              go_wp2_with (first
                | (refine wp_make rfl _ _ rfl 512 rfl rfl (by omega) ?_; intro w5 g5 hg5 b5 f5; have c1 := b5.cell 1 (by simp only [List.length_replicate]; omega); have c6 := b5.cell 6 (by simp only [List.length_replicate]; omega); have c7 := b5.cell 7 (by simp only [List.length_replicate]; omega); have z1 := b5.frozen 1; have z6 := b5.frozen 6; have z7 := b5.frozen 7; have ST := hidI (stored3 wr w5 g5 _ List.length_replicate b5 f5 hg5 1 1 1 rfl 6 1 1 rfl 7 248 248 rfl))
                | (refine wp_appT rfl _ _ rfl w.heap.size a 4 c vs w5.heap.size _ rfl rfl (T4.out.kept0 ST.out.1) ST.out.2.2 ST.out.2.1 (Nat.le_trans F4.out.size ST.out.1.size) (by omega) ?_; intro g6 c6' w6 L6 t6 f6 hL6))
              have f06 : Fr [] w w6 := (F4.out.trans ST.out.1).then f6 (fun i hi hm => by have := (hL6 i hm).1; omega)
              exact ⟨⟨2, 505, _, _, _, by omega, rfl, rfl, rfl, t6, (R4.out.kept ST.out.1 (by simp)).keptT f6 hL6, f06⟩, by simp [intOf]⟩
            · obtain rfl : N = 505 := by omega
              clear hN hlt hk
              go_wp2_with (first
                | (refine wp_make rfl _ _ rfl 512 rfl rfl (by omega) ?_; intro w5 g5 hg5 b5 f5; have c1 := b5.cell 1 (by simp only [List.length_replicate]; omega); have c6 := b5.cell 6 (by simp only [List.length_replicate]; omega); have c7 := b5.cell 7 (by simp only [List.length_replicate]; omega); have z1 := b5.frozen 1; have z6 := b5.frozen 6; have z7 := b5.frozen 7; have ST := hidI (stored3 wr w5 g5 _ List.length_replicate b5 f5 hg5 1 1 1 rfl 6 1 1 rfl 7 249 249 rfl))
                | (refine wp_appT rfl _ _ rfl w.heap.size a 5 c vs w5.heap.size _ rfl rfl (T4.out.kept0 ST.out.1) ST.out.2.2 ST.out.2.1 (Nat.le_trans F4.out.size ST.out.1.size) (by omega) ?_; intro g6 c6' w6 L6 t6 f6 hL6))
              have f06 : Fr [] w w6 := (F4.out.trans ST.out.1).then f6 (fun i hi hm => by have := (hL6 i hm).1; omega)
              exact ⟨⟨3, 506, _, _, _, by omega, rfl, rfl, rfl, t6, (R4.out.kept ST.out.1 (by simp)).keptT f6 hL6, f06⟩, by simp [intOf]⟩
            · obtain rfl : N = 506 := by omega
              clear hN hlt hk
              go_wp2_with (first
                | (refine wp_make rfl _ _ rfl 512 rfl rfl (by omega) ?_; intro w5 g5 hg5 b5 f5; have c1 := b5.cell 1 (by simp only [List.length_replicate]; omega); have c6 := b5.cell 6 (by simp only [List.length_replicate]; omega); have c7 := b5.cell 7 (by simp only [List.length_replicate]; omega); have z1 := b5.frozen 1; have z6 := b5.frozen 6; have z7 := b5.frozen 7; have ST := hidI (stored3 wr w5 g5 _ List.length_replicate b5 f5 hg5 1 1 1 rfl 6 1 1 rfl 7 250 250 rfl))
                | (refine wp_appT rfl _ _ rfl w.heap.size a 6 c vs w5.heap.size _ rfl rfl (T4.out.kept0 ST.out.1) ST.out.2.2 ST.out.2.1 (Nat.le_trans F4.out.size ST.out.1.size) (by omega) ?_; intro g6 c6' w6 L6 t6 f6 hL6))
              have f06 : Fr [] w w6 := (F4.out.trans ST.out.1).then f6 (fun i hi hm => by have := (hL6 i hm).1; omega)
              exact ⟨⟨4, 507, _, _, _, by omega, rfl, rfl, rfl, t6, (R4.out.kept ST.out.1 (by simp)).keptT f6 hL6, f06⟩, by simp [intOf]⟩
            · obtain rfl : N = 507 := by omega
              clear hN hlt hk
              go_wp2_with (first
                | (refine wp_make rfl _ _ rfl 512 rfl rfl (by omega) ?_; intro w5 g5 hg5 b5 f5; have c1 := b5.cell 1 (by simp only [List.length_replicate]; omega); have c6 := b5.cell 6 (by simp only [List.length_replicate]; omega); have c7 := b5.cell 7 (by simp only [List.length_replicate]; omega); have z1 := b5.frozen 1; have z6 := b5.frozen 6; have z7 := b5.frozen 7; have ST := hidI (stored3 wr w5 g5 _ List.length_replicate b5 f5 hg5 1 1 1 rfl 6 1 1 rfl 7 251 251 rfl))
                | (refine wp_appT rfl _ _ rfl w.heap.size a 7 c vs w5.heap.size _ rfl rfl (T4.out.kept0 ST.out.1) ST.out.2.2 ST.out.2.1 (Nat.le_trans F4.out.size ST.out.1.size) (by omega) ?_; intro g6 c6' w6 L6 t6 f6 hL6))
              have f06 : Fr [] w w6 := (F4.out.trans ST.out.1).then f6 (fun i hi hm => by have := (hL6 i hm).1; omega)
              exact ⟨⟨5, 508, _, _, _, by omega, rfl, rfl, rfl, t6, (R4.out.kept ST.out.1 (by simp)).keptT f6 hL6, f06⟩, by simp [intOf]⟩
          · obtain rfl : k = 5 := by omega
            obtain rfl : N = 508 := by omega
            clear hlt hk hN
            go_wp2_with fail
            go_loopw [6, 3] (fun s6 s3 wr => ∃ (k : Nat) (N : Int) (M : Nat) (a : Option Addr) (c : Nat) (vs : List Value), k ≤ 512 ∧ N = (k : Int) ∧ M = 8 + k ∧ s6 = .int .i64 N ∧ s3 = .slice a M c ∧ Tb w.heap.size wr a M c vs ∧ RowB wr g 512 (pgB 0 4294967295 (sp 253)) ∧ Fr [] w wr) (fun s6 _ _ => 512 - (intOf s6).toNat)
            case atStart => exact ⟨0, 0, 8, a, c, vs, by omega, rfl, rfl, rfl, rfl, T4.out, R4.out, F4.out⟩
            case round =>
              obtain ⟨k, N, M, a, c, vs, hk, hN, hM, rfl, rfl, t5, r5, f5⟩ := hrel
              have T5 := hidI t5
              have R5 := hidI r5
              have F5 := hidI f5
              clear t5 r5 f5
              by_cases hlt : k < 512
              · subst hN hM
                have q : (k : Int) < 512 := by omega
                have q0 : (0 : Int) ≤ (k : Int) := by omega
                go_wp2_with (first
                  | (refine wp_make rfl _ _ rfl 512 rfl rfl (by omega) ?_; intro w5 g5 hg5 b5 f5; have c1 := b5.cell k (by simp only [List.length_replicate]; omega); have z1 := b5.frozen k; have ST := hidI (stored1 wr w5 g5 _ List.length_replicate b5 f5 hg5 k 1 1 rfl))
                  | (refine wp_appT rfl _ _ rfl w.heap.size a (8 + k) c vs w5.heap.size _ rfl rfl (T5.out.kept0 ST.out.1) ST.out.2.2 ST.out.2.1 (Nat.le_trans F5.out.size ST.out.1.size) (by omega) ?_; intro g6 c6' w6 L6 t6 f6 hL6))
                have f06 : Fr [] w w6 := (F5.out.trans ST.out.1).then f6 (fun i hi hm => by have := (hL6 i hm).1; omega)
                exact ⟨⟨k + 1, _, _, _, _, _, by omega, Int.natCast_succ k, by omega, by go_num, rfl, t6, (R5.out.kept ST.out.1 (by simp)).keptT f6 hL6, f06⟩, by simp [intOf]; omega⟩
              · obtain rfl : k = 512 := by omega
                obtain rfl : N = 512 := by omega
                obtain rfl : M = 520 := by omega
                clear hlt hk hN hM
                go_wp2_with fail
                go_loopw [8] (fun s8 wr => ∃ (k : Nat) (N : Int), k ≤ 520 ∧ N = (k : Int) ∧ s8 = .int .i64 N ∧ Tb w.heap.size wr a 520 c vs ∧ RowB wr g 512 (pgB 0 4294967295 (sp 253)) ∧ Fr [] w wr) (fun s8 _ => 520 - (intOf s8).toNat)
                case atStart => exact ⟨0, 0, by omega, rfl, rfl, T5.out, R5.out, F5.out⟩
                case round =>
                  obtain ⟨k, N, hk, hN, rfl, t6, r6, f6⟩ := hrel
                  have T6 := hidI t6
                  have R6 := hidI r6
                  have F6 := hidI f6
                  clear t6 r6 f6
                  by_cases hlt : k < 520
                  · subst hN
                    have q : (k : Int) < 520 := by omega
                    have q0 : (0 : Int) ≤ (k : Int) := by omega
                    obtain ⟨gt, v, rfl, ce, hel⟩ := T6.out.at k hlt
                    obtain ⟨ad, n, l, rfl, sl, hn, hz⟩ := hel.sl
                    have SL := hidI sl
                    clear hel sl
                    go_wp2_with fail
                    refine (tells_short _ ad n n l 0 SL.out hn hz).mono ?_
                    rintro e w7 ⟨rfl, f7⟩
                    have ce7 : w7.cell? ⟨gt, k, none⟩ = some (.slice ad n n) := (World.cell?_of_block (f7.block gt (block_lt_of_cell ce) (by simp))).trans ce
                    go_wp2_with fail
                    refine (lives_short _ 1 1 rfl ad n n l (SL.out.kept ((f7.alloc _).alloc _) (by simp)) hn hz _ (theDos w7.heap.size) 3 3 rfl (by omega) (dos_at w7 w7.heap.size _ (size_alloc _ _) rfl)).mono ?_
                    rintro e w8 ⟨rfl, f8⟩
                    have g8 : Fr [] wr w8 := ((f7.alloc _).alloc _).trans f8
                    have T8 := hidI (T6.out.kept0 g8)
                    have R8 := hidI (R6.out.kept g8 (by simp))
                    have F8 := hidI (F6.out.trans g8)
                    clear f7 f8 g8 ce ce7
                    go_wp2_with fail
                    exact ⟨⟨k + 1, _, by omega, Int.natCast_succ k, by go_num, T8.out, R8.out, F8.out⟩, by simp [intOf]; omega⟩
                  · obtain rfl : k = 520 := by omega
                    obtain rfl : N = 520 := by omega
                    clear hlt hk hN
                    go_wp2_with fail
                    go_loopw [9] (fun s9 wr => ∃ (k : Nat) (N : Int), k ≤ 12 ∧ N = (k : Int) ∧ s9 = .int .i64 N ∧ RowB wr g 512 (pgB 0 4294967295 (sp 253)) ∧ Fr [] w wr) (fun s9 _ => 12 - (intOf s9).toNat)
                    case atStart => exact ⟨0, 0, by omega, rfl, rfl, R6.out, F6.out⟩
                    case round =>
                      obtain ⟨k, N, hk, hN, rfl, t7, f7⟩ := hrel
                      have R7 := hidI t7
                      have F7 := hidI f7
                      clear t7 f7
                      by_cases hlt : k < 12
                      · have q : N < 12 := by omega
                        go_upto_region 34 with fail
                        go_cut [10, 11] from 168 to 169 (fun s10 s11 wx => ∃ ga gb, s10 = .slice (some ⟨ga, 0, none⟩) 512 512 ∧ s11 = .slice (some ⟨gb, 0, none⟩) 512 512 ∧ Blk wx ga (zs 512) ∧ Blk wx gb (zs 512) ∧ ga ≠ gb ∧ wr.heap.size ≤ gb ∧ Fr [] wr wx)
                        case first =>
                          have m3 : ∀ w : World, Sem.run Try.prog (Instr.makeSlice 22 (.int .i64 512) (.int .i64 512)) w = Result.ok (.slice (some ⟨w.heap.size, 0, none⟩) 512 512) (w.alloc (.cells (arr (zs 512)) 5)) := fun w => run_makeB w 512 (by omega)
                          go_region
                          all_goals
                            go_wp2_with fail
                            go_meet
                          case rel => exact ⟨_, _, rfl, rfl, (both_blk wr).1.drew, (both_blk wr).2.drew, by omega, by omega, (((Fr.refl [] wr).alloc _).alloc _).drew⟩
                          case rel => exact ⟨_, _, rfl, rfl, (both_blk wr).2.drew, (both_blk wr).1.drew, by omega, by omega, (((Fr.refl [] wr).alloc _).alloc _).drew⟩
                        case rest =>
                        obtain ⟨ga, gb, rfl, rfl, a8, b8, hne, hb, f8⟩ := hcut
                        clear q
                        have c0 := b8.cell 0 (by rw [zs_length]; omega)
                        have c511 := b8.cell 511 (by rw [zs_length]; omega)
                        have z0 := b8.frozen 0
                        have z511 := b8.frozen 511
                        have hk12 : k = 0 ∨ k = 1 ∨ k = 2 ∨ k = 3 ∨ k = 4 ∨ k = 5 ∨ k = 6 ∨ k = 7 ∨ k = 8 ∨ k = 9 ∨ k = 10 ∨ k = 11 := by omega
                        rcases hk12 with rfl | rfl | rfl | rfl | rfl | rfl | rfl | rfl | rfl | rfl | rfl | rfl
                        · obtain rfl : N = 0 := by omega
                          clear hN hlt hk
                          have c1 := b8.cell 1 (by rw [zs_length]; omega)
                          have c2 := b8.cell 510 (by rw [zs_length]; omega)
                          have z1 := b8.frozen 1
                          have z2 := b8.frozen 510
                          go_wp2_with fail
                          obtain ⟨f9, sa9, sb9⟩ := stored4 wr wc ga gb a8 b8 hne f8 hb 0 1 510 rfl rfl _ rfl
                          refine (diff_len_is _ ga gb (zs 512) (gapL 0) sa9 sb9 2 ((gap_dd 0 (by omega)).trans rfl)).mono ?_
                          rintro e w10 ⟨AD, CAP, rfl, f10⟩
                          go_wp2_with fail
                          refine (diffs_law _ _ 512 512 (zs 512) (sa9.kept f10 (by simp)) (by omega) (fun e => nomatch e) _ 512 512 (gapL 0) (sb9.kept f10 (by simp)) (by omega) (fun e => nomatch e)).mono ?_
                          rintro e w11 ⟨rfl, f11⟩
                          have g11 := (f9.trans f10).trans f11
                          go_wp2_with fail
                          exact ⟨⟨1, 1, by omega, rfl, rfl, R7.out.kept g11 (by simp), F7.out.trans g11⟩, by simp [intOf]⟩
                        · obtain rfl : N = 1 := by omega
                          clear hN hlt hk
                          have c1 := b8.cell 2 (by rw [zs_length]; omega)
                          have c2 := b8.cell 509 (by rw [zs_length]; omega)
                          have z1 := b8.frozen 2
                          have z2 := b8.frozen 509
                          go_wp2_with fail
                          obtain ⟨f9, sa9, sb9⟩ := stored4 wr wc ga gb a8 b8 hne f8 hb 1 2 509 rfl rfl _ rfl
                          refine (diff_len_is _ ga gb (zs 512) (gapL 1) sa9 sb9 2 ((gap_dd 1 (by omega)).trans rfl)).mono ?_
                          rintro e w10 ⟨AD, CAP, rfl, f10⟩
                          go_wp2_with fail
                          refine (diffs_law _ _ 512 512 (zs 512) (sa9.kept f10 (by simp)) (by omega) (fun e => nomatch e) _ 512 512 (gapL 1) (sb9.kept f10 (by simp)) (by omega) (fun e => nomatch e)).mono ?_
                          rintro e w11 ⟨rfl, f11⟩
                          have g11 := (f9.trans f10).trans f11
                          go_wp2_with fail
                          exact ⟨⟨2, 2, by omega, rfl, rfl, R7.out.kept g11 (by simp), F7.out.trans g11⟩, by simp [intOf]⟩
                        · obtain rfl : N = 2 := by omega
                          clear hN hlt hk
                          have c1 := b8.cell 3 (by rw [zs_length]; omega)
                          have c2 := b8.cell 508 (by rw [zs_length]; omega)
                          have z1 := b8.frozen 3
                          have z2 := b8.frozen 508
                          go_wp2_with fail
                          obtain ⟨f9, sa9, sb9⟩ := stored4 wr wc ga gb a8 b8 hne f8 hb 2 3 508 rfl rfl _ rfl
                          refine (diff_len_is _ ga gb (zs 512) (gapL 2) sa9 sb9 2 ((gap_dd 2 (by omega)).trans rfl)).mono ?_
                          rintro e w10 ⟨AD, CAP, rfl, f10⟩
                          go_wp2_with fail
                          refine (diffs_law _ _ 512 512 (zs 512) (sa9.kept f10 (by simp)) (by omega) (fun e => nomatch e) _ 512 512 (gapL 2) (sb9.kept f10 (by simp)) (by omega) (fun e => nomatch e)).mono ?_
                          rintro e w11 ⟨rfl, f11⟩
                          have g11 := (f9.trans f10).trans f11
                          go_wp2_with fail
                          exact ⟨⟨3, 3, by omega, rfl, rfl, R7.out.kept g11 (by simp), F7.out.trans g11⟩, by simp [intOf]⟩
                        · obtain rfl : N = 3 := by omega
                          clear hN hlt hk
                          have c1 := b8.cell 4 (by rw [zs_length]; omega)
                          have c2 := b8.cell 507 (by rw [zs_length]; omega)
                          have z1 := b8.frozen 4
                          have z2 := b8.frozen 507
                          go_wp2_with fail
                          obtain ⟨f9, sa9, sb9⟩ := stored4 wr wc ga gb a8 b8 hne f8 hb 3 4 507 rfl rfl _ rfl
                          refine (diff_len_is _ ga gb (zs 512) (gapL 3) sa9 sb9 2 ((gap_dd 3 (by omega)).trans rfl)).mono ?_
                          rintro e w10 ⟨AD, CAP, rfl, f10⟩
                          go_wp2_with fail
                          refine (diffs_law _ _ 512 512 (zs 512) (sa9.kept f10 (by simp)) (by omega) (fun e => nomatch e) _ 512 512 (gapL 3) (sb9.kept f10 (by simp)) (by omega) (fun e => nomatch e)).mono ?_
                          rintro e w11 ⟨rfl, f11⟩
                          have g11 := (f9.trans f10).trans f11
                          go_wp2_with fail
                          exact ⟨⟨4, 4, by omega, rfl, rfl, R7.out.kept g11 (by simp), F7.out.trans g11⟩, by simp [intOf]⟩
                        · obtain rfl : N = 4 := by omega
                          clear hN hlt hk
                          have c1 := b8.cell 5 (by rw [zs_length]; omega)
                          have c2 := b8.cell 506 (by rw [zs_length]; omega)
                          have z1 := b8.frozen 5
                          have z2 := b8.frozen 506
                          go_wp2_with fail
                          obtain ⟨f9, sa9, sb9⟩ := stored4 wr wc ga gb a8 b8 hne f8 hb 4 5 506 rfl rfl _ rfl
                          refine (diff_len_is _ ga gb (zs 512) (gapL 4) sa9 sb9 2 ((gap_dd 4 (by omega)).trans rfl)).mono ?_
                          rintro e w10 ⟨AD, CAP, rfl, f10⟩
                          go_wp2_with fail
                          refine (diffs_law _ _ 512 512 (zs 512) (sa9.kept f10 (by simp)) (by omega) (fun e => nomatch e) _ 512 512 (gapL 4) (sb9.kept f10 (by simp)) (by omega) (fun e => nomatch e)).mono ?_
                          rintro e w11 ⟨rfl, f11⟩
                          have g11 := (f9.trans f10).trans f11
                          go_wp2_with fail
                          exact ⟨⟨5, 5, by omega, rfl, rfl, R7.out.kept g11 (by simp), F7.out.trans g11⟩, by simp [intOf]⟩
                        · obtain rfl : N = 5 := by omega
                          clear hN hlt hk
                          have c1 := b8.cell 6 (by rw [zs_length]; omega)
                          have c2 := b8.cell 505 (by rw [zs_length]; omega)
                          have z1 := b8.frozen 6
                          have z2 := b8.frozen 505
                          go_wp2_with fail
                          obtain ⟨f9, sa9, sb9⟩ := stored4 wr wc ga gb a8 b8 hne f8 hb 5 6 505 rfl rfl _ rfl
                          refine (diff_len_is _ ga gb (zs 512) (gapL 5) sa9 sb9 2 ((gap_dd 5 (by omega)).trans rfl)).mono ?_
                          rintro e w10 ⟨AD, CAP, rfl, f10⟩
                          go_wp2_with fail
                          refine (diffs_law _ _ 512 512 (zs 512) (sa9.kept f10 (by simp)) (by omega) (fun e => nomatch e) _ 512 512 (gapL 5) (sb9.kept f10 (by simp)) (by omega) (fun e => nomatch e)).mono ?_
                          rintro e w11 ⟨rfl, f11⟩
                          have g11 := (f9.trans f10).trans f11
                          go_wp2_with fail
                          exact ⟨⟨6, 6, by omega, rfl, rfl, R7.out.kept g11 (by simp), F7.out.trans g11⟩, by simp [intOf]⟩
                        · obtain rfl : N = 6 := by omega
                          clear hN hlt hk
                          have c1 := b8.cell 7 (by rw [zs_length]; omega)
                          have c2 := b8.cell 504 (by rw [zs_length]; omega)
                          have z1 := b8.frozen 7
                          have z2 := b8.frozen 504
                          go_wp2_with fail
                          obtain ⟨f9, sa9, sb9⟩ := stored4 wr wc ga gb a8 b8 hne f8 hb 6 7 504 rfl rfl _ rfl
                          refine (diff_len_is _ ga gb (zs 512) (gapL 6) sa9 sb9 2 ((gap_dd 6 (by omega)).trans rfl)).mono ?_
                          rintro e w10 ⟨AD, CAP, rfl, f10⟩
                          go_wp2_with fail
                          refine (diffs_law _ _ 512 512 (zs 512) (sa9.kept f10 (by simp)) (by omega) (fun e => nomatch e) _ 512 512 (gapL 6) (sb9.kept f10 (by simp)) (by omega) (fun e => nomatch e)).mono ?_
                          rintro e w11 ⟨rfl, f11⟩
                          have g11 := (f9.trans f10).trans f11
                          go_wp2_with fail
                          exact ⟨⟨7, 7, by omega, rfl, rfl, R7.out.kept g11 (by simp), F7.out.trans g11⟩, by simp [intOf]⟩
                        · obtain rfl : N = 7 := by omega
                          clear hN hlt hk
                          have c1 := b8.cell 8 (by rw [zs_length]; omega)
                          have c2 := b8.cell 503 (by rw [zs_length]; omega)
                          have z1 := b8.frozen 8
                          have z2 := b8.frozen 503
                          go_wp2_with fail
                          obtain ⟨f9, sa9, sb9⟩ := stored4 wr wc ga gb a8 b8 hne f8 hb 7 8 503 rfl rfl _ rfl
                          refine (diff_len_is _ ga gb (zs 512) (gapL 7) sa9 sb9 2 ((gap_dd 7 (by omega)).trans rfl)).mono ?_
                          rintro e w10 ⟨AD, CAP, rfl, f10⟩
                          go_wp2_with fail
                          refine (diffs_law _ _ 512 512 (zs 512) (sa9.kept f10 (by simp)) (by omega) (fun e => nomatch e) _ 512 512 (gapL 7) (sb9.kept f10 (by simp)) (by omega) (fun e => nomatch e)).mono ?_
                          rintro e w11 ⟨rfl, f11⟩
                          have g11 := (f9.trans f10).trans f11
                          go_wp2_with fail
                          exact ⟨⟨8, 8, by omega, rfl, rfl, R7.out.kept g11 (by simp), F7.out.trans g11⟩, by simp [intOf]⟩
                        · obtain rfl : N = 8 := by omega
                          clear hN hlt hk
                          have c1 := b8.cell 9 (by rw [zs_length]; omega)
                          have c2 := b8.cell 502 (by rw [zs_length]; omega)
                          have z1 := b8.frozen 9
                          have z2 := b8.frozen 502
                          go_wp2_with fail
                          obtain ⟨f9, sa9, sb9⟩ := stored4 wr wc ga gb a8 b8 hne f8 hb 8 9 502 rfl rfl _ rfl
                          refine (diff_len_is _ ga gb (zs 512) (gapL 8) sa9 sb9 4 ((gap_dd 8 (by omega)).trans rfl)).mono ?_
                          rintro e w10 ⟨AD, CAP, rfl, f10⟩
                          go_wp2_with fail
                          refine (diffs_law _ _ 512 512 (zs 512) (sa9.kept f10 (by simp)) (by omega) (fun e => nomatch e) _ 512 512 (gapL 8) (sb9.kept f10 (by simp)) (by omega) (fun e => nomatch e)).mono ?_
                          rintro e w11 ⟨rfl, f11⟩
                          have g11 := (f9.trans f10).trans f11
                          go_wp2_with fail
                          exact ⟨⟨9, 9, by omega, rfl, rfl, R7.out.kept g11 (by simp), F7.out.trans g11⟩, by simp [intOf]⟩
                        · obtain rfl : N = 9 := by omega
                          clear hN hlt hk
                          have c1 := b8.cell 10 (by rw [zs_length]; omega)
                          have c2 := b8.cell 501 (by rw [zs_length]; omega)
                          have z1 := b8.frozen 10
                          have z2 := b8.frozen 501
                          go_wp2_with fail
                          obtain ⟨f9, sa9, sb9⟩ := stored4 wr wc ga gb a8 b8 hne f8 hb 9 10 501 rfl rfl _ rfl
                          refine (diff_len_is _ ga gb (zs 512) (gapL 9) sa9 sb9 4 ((gap_dd 9 (by omega)).trans rfl)).mono ?_
                          rintro e w10 ⟨AD, CAP, rfl, f10⟩
                          go_wp2_with fail
                          refine (diffs_law _ _ 512 512 (zs 512) (sa9.kept f10 (by simp)) (by omega) (fun e => nomatch e) _ 512 512 (gapL 9) (sb9.kept f10 (by simp)) (by omega) (fun e => nomatch e)).mono ?_
                          rintro e w11 ⟨rfl, f11⟩
                          have g11 := (f9.trans f10).trans f11
                          go_wp2_with fail
                          exact ⟨⟨10, 10, by omega, rfl, rfl, R7.out.kept g11 (by simp), F7.out.trans g11⟩, by simp [intOf]⟩
                        · obtain rfl : N = 10 := by omega
                          clear hN hlt hk
                          have c1 := b8.cell 11 (by rw [zs_length]; omega)
                          have c2 := b8.cell 500 (by rw [zs_length]; omega)
                          have z1 := b8.frozen 11
                          have z2 := b8.frozen 500
                          go_wp2_with fail
                          obtain ⟨f9, sa9, sb9⟩ := stored4 wr wc ga gb a8 b8 hne f8 hb 10 11 500 rfl rfl _ rfl
                          refine (diff_len_is _ ga gb (zs 512) (gapL 10) sa9 sb9 4 ((gap_dd 10 (by omega)).trans rfl)).mono ?_
                          rintro e w10 ⟨AD, CAP, rfl, f10⟩
                          go_wp2_with fail
                          refine (diffs_law _ _ 512 512 (zs 512) (sa9.kept f10 (by simp)) (by omega) (fun e => nomatch e) _ 512 512 (gapL 10) (sb9.kept f10 (by simp)) (by omega) (fun e => nomatch e)).mono ?_
                          rintro e w11 ⟨rfl, f11⟩
                          have g11 := (f9.trans f10).trans f11
                          go_wp2_with fail
                          exact ⟨⟨11, 11, by omega, rfl, rfl, R7.out.kept g11 (by simp), F7.out.trans g11⟩, by simp [intOf]⟩
                        · obtain rfl : N = 11 := by omega
                          clear hN hlt hk
                          have c1 := b8.cell 12 (by rw [zs_length]; omega)
                          have c2 := b8.cell 499 (by rw [zs_length]; omega)
                          have z1 := b8.frozen 12
                          have z2 := b8.frozen 499
                          go_wp2_with fail
                          obtain ⟨f9, sa9, sb9⟩ := stored4 wr wc ga gb a8 b8 hne f8 hb 11 12 499 rfl rfl _ rfl
                          refine (diff_len_is _ ga gb (zs 512) (gapL 11) sa9 sb9 4 ((gap_dd 11 (by omega)).trans rfl)).mono ?_
                          rintro e w10 ⟨AD, CAP, rfl, f10⟩
                          go_wp2_with fail
                          refine (diffs_law _ _ 512 512 (zs 512) (sa9.kept f10 (by simp)) (by omega) (fun e => nomatch e) _ 512 512 (gapL 11) (sb9.kept f10 (by simp)) (by omega) (fun e => nomatch e)).mono ?_
                          rintro e w11 ⟨rfl, f11⟩
                          have g11 := (f9.trans f10).trans f11
                          go_wp2_with fail
                          exact ⟨⟨12, 12, by omega, rfl, rfl, R7.out.kept g11 (by simp), F7.out.trans g11⟩, by simp [intOf]⟩
                      · obtain rfl : k = 12 := by omega
                        obtain rfl : N = 12 := by omega
                        clear hlt hk hN
                        go_wp2_with fail
                        refine (diff_len_is _ g g _ _ (row_sl R7.out (PG.out _ 253 (by omega) (by omega))) (row_sl R7.out (PG.out _ 253 (by omega) (by omega))) 0 (by rw [dd_self]; rfl)).mono ?_
                        rintro e w8 ⟨AD, CAP, rfl, f8⟩
                        go_wp2_with fail
                        refine (awake_any _).mono ?_
                        rintro e w9 ⟨rfl, f9⟩
                        go_wp2_with fail
                        go_ret
                        exact ⟨rfl, (F7.out.trans f8).trans f9⟩
end Go.Proofs.Ytlfpoeimgoikkaa

