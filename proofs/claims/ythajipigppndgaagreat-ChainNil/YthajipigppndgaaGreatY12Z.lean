/-
  A record read again: the log's record.
-/
import Derived.Test.YthajipigppndgaaGreatY11Z
import Derived.Test.YthajipigppndgaaGreatY10Z
namespace Go.Proofs.YthajipigppndgaaGreat
open Go.RowKit Go.Maps

set_option maxRecDepth 100000 in
theorem fm1_any (w : World) (d bs bo : Nat) (nb : Int) (S O : Dv.Tab) (hd : Dv.Dev w d bs bo nb 0 false S O) (hn : 0 ≤ nb) (hn2 : nb ≤ 1000000) (x : Nat) (t : TypeId) (hx : w.heap[x]? = some (.cells #[.pointer (some ⟨d, 0, none⟩)] t)) :
    Calls Tryz.prog 121 #[.pointer (some ⟨x, 0, none⟩)] w fun e w' => e = .returned (.int .i64 0) ∧ (∃ O', (∀ k : Int, 0 ≤ k → k < nb → O' k = some (zs 512)) ∧ Dv.Dev w' d bs bo nb 0 false S O') ∧ Fr [d, bo] w w' := by
  have c0 := cell_of_row w x 0 _ _ _ hx
  go_enter Tryz.func121, Tryz.ntmps121
  go_wp2_with (go_at_call 122; refine (wipe_any w d bs bo nb S O hd hn hn2).mono ?_; rintro e w3 ⟨rfl, D3, f3⟩)
  go_ret
  exact ⟨rfl, D3, f3⟩
set_option maxRecDepth 100000 in
theorem fm2_any (w : World) (d bs bo : Nat) (nb : Int) (S O : Dv.Tab) (hd : Dv.Dev w d bs bo nb 0 false S O) (x : Nat) (t : TypeId) (hx : w.heap[x]? = some (.cells #[.pointer (some ⟨d, 0, none⟩)] t)) :
    Calls Tryz.prog 123 #[.pointer (some ⟨x, 0, none⟩)] w fun e w' => e = .returned (.int .i64 0) ∧ Dv.Dev w' d bs bo nb 0 false (Dv.over S O) Dv.Tab.none ∧ Fr [d, bs, bo] w w' := by
  have c0 := cell_of_row w x 0 _ _ _ hx
  go_enter Tryz.func123, Tryz.ntmps123
  go_wp2_with (go_at_call 104; refine (Dv.sync_dev hd rfl).mono ?_; rintro e w3 ⟨rfl, D3, f3⟩)
  go_ret
  exact ⟨rfl, D3, fr_dv f3⟩
def m111 : Mst := ⟨1, 1, 1⟩
theorem m111_ok : MOk m111 := ⟨by decide, by decide, by decide, by decide, by decide, by decide⟩
set_option maxRecDepth 100000 in
theorem fm3_any (w : World) (d bs bo : Nat) (nb : Int) (S O : Dv.Tab) (hd : Dv.Dev w d bs bo nb 0 false S O) (hn : 24 ≤ nb) (x : Nat) (t : TypeId) (hx : w.heap[x]? = some (.cells #[.pointer (some ⟨d, 0, none⟩)] t)) :
    Calls Tryz.prog 124 #[.pointer (some ⟨x, 0, none⟩)] w fun e w' => e = .returned (.int .i64 0) ∧ Dv.Dev w' d bs bo nb 0 false (Dv.over S (O.put 1 (mBytes m111))) Dv.Tab.none ∧ Fr [d, bs, bo] w w' := by
  have c0 := cell_of_row w x 0 _ _ _ hx
  go_enter Tryz.func124, Tryz.ntmps124
  go_wp2_with (go_at_call 115; refine (mw_any w d bs bo nb S O hd hn m111 m111_ok).mono ?_; rintro e w3 ⟨rfl, D3, f3⟩)
  go_ret
  exact ⟨rfl, D3, f3⟩
def flF (B : Nat) : List (FuncId × List Value) := [(121, [.pointer (some ⟨B, 0, none⟩)]), (123, [.pointer (some ⟨B, 0, none⟩)]), (124, [.pointer (some ⟨B, 0, none⟩)])]
def FmI (wt : World) (d bs bo : Nat) (nb : Int) (S O : Dv.Tab) : Nat → World → Prop
  | 0 => fun w' => Dv.Dev w' d bs bo nb 0 false S O ∧ Fr [d, bs, bo] wt w'
  | 1 => fun w' => (∃ O', (∀ k : Int, 0 ≤ k → k < nb → O' k = some (zs 512)) ∧ Dv.Dev w' d bs bo nb 0 false S O') ∧ Fr [d, bs, bo] wt w'
  | 2 => fun w' => (∃ O', (∀ k : Int, 0 ≤ k → k < nb → O' k = some (zs 512)) ∧ Dv.Dev w' d bs bo nb 0 false (Dv.over S O') Dv.Tab.none) ∧ Fr [d, bs, bo] wt w'
  | _ => fun w' => (∃ O', (∀ k : Int, 0 ≤ k → k < nb → O' k = some (zs 512)) ∧ Dv.Dev w' d bs bo nb 0 false (Dv.over (Dv.over S O') (Dv.Tab.none.put 1 (mBytes m111))) Dv.Tab.none) ∧ Fr [d, bs, bo] wt w'
theorem FmI.fr {wt : World} {d bs bo : Nat} {nb : Int} {S O : Dv.Tab} : ∀ {i : Nat} {w' : World}, FmI wt d bs bo nb S O i w' → Fr [d, bs, bo] wt w'
  | 0, _, h => h.2
  | 1, _, h => h.2
  | 2, _, h => h.2
  | _ + 3, _, h => h.2
theorem enF (w : World) (B : Nat) : ∀ (i : Nat) (p : FuncId × List Value), (flF B)[i]? = some p → (callFunc p.1 p.2.toArray).run Tryz.prog w = .ok (.enter p.1 p.2.toArray) w
  | 0, p, h => by cases h; go_simp
  | 1, p, h => by cases h; go_simp
  | 2, p, h => by cases h; go_simp
  | n + 3, p, h => by simp [flF] at h
set_option maxRecDepth 100000 in
theorem format_any (w : World) (d bs bo : Nat) (nb : Int) (S O : Dv.Tab) (hd : Dv.Dev w d bs bo nb 0 false S O) (hn : 24 ≤ nb) (hn2 : nb ≤ 1000000) :
    Calls Tryz.prog 71 #[.pointer (some ⟨d, 0, none⟩)] w fun e w' => e = .returned (.int .i64 0) ∧ (∃ O', (∀ k : Int, 0 ≤ k → k < nb → O' k = some (zs 512)) ∧ Dv.Dev w' d bs bo nb 0 false (Dv.over (Dv.over S O') (Dv.Tab.none.put 1 (mBytes m111))) Dv.Tab.none) ∧ Fr [d, bs, bo] w w' := by
  have HD := hidI hd
  have z0 : ¬ nb = 0 := by omega
  have z1 : ¬ nb < 24 := by omega
  have f1 : Fr [] w (w.alloc (.cells #[.pointer (some ⟨d, 0, none⟩)] 33)) := (Fr.refl [] w).alloc _
  have bx := heap_alloc_new w (.cells #[.pointer (some ⟨d, 0, none⟩)] 33)
  have s1 : (w.alloc (.cells #[.pointer (some ⟨d, 0, none⟩)] 33)).heap.size = w.heap.size + 1 := by simp
  obtain ⟨w1, hw1⟩ : ∃ w1, w.alloc (.cells #[.pointer (some ⟨d, 0, none⟩)] 33) = w1 := ⟨_, rfl⟩
  rw [hw1] at f1 bx s1
  have D1 := hidI (dev_kept hd f1 (by simp) (by simp) (by simp))
  have x0 := cell_of_row w1 w.heap.size 0 _ _ _ bx
  go_enter Tryz.func71, Tryz.ntmps71
  go_wp2_with (go_at_call 120; refine (Dv.blocks_dev D1.out).mono ?_; rintro e w3 ⟨rfl, hz⟩; rw [hz]; clear hz)
  have hfl := heap_alloc_new w1 (.cells #[.func (.func 121) #[] #[.pointer (some ⟨w.heap.size, 0, none⟩)], .func (.func 123) #[] #[.pointer (some ⟨w.heap.size, 0, none⟩)], .func (.func 124) #[] #[.pointer (some ⟨w.heap.size, 0, none⟩)]] 53)
  have f5 : Fr [] w1 (w1.alloc (.cells #[.func (.func 121) #[] #[.pointer (some ⟨w.heap.size, 0, none⟩)], .func (.func 123) #[] #[.pointer (some ⟨w.heap.size, 0, none⟩)], .func (.func 124) #[] #[.pointer (some ⟨w.heap.size, 0, none⟩)]] 53)) := (Fr.refl [] w1).alloc _
  obtain ⟨wt, hwt⟩ : ∃ wt, w1.alloc (.cells #[.func (.func 121) #[] #[.pointer (some ⟨w.heap.size, 0, none⟩)], .func (.func 123) #[] #[.pointer (some ⟨w.heap.size, 0, none⟩)], .func (.func 124) #[] #[.pointer (some ⟨w.heap.size, 0, none⟩)]] 53) = wt := ⟨_, rfl⟩
  rw [hwt] at hfl f5
  rw [s1] at hfl
  have bx5 := f5.same (by simp) bx
  have f6 := f1.trans f5
  have hout : ∀ k, w.heap.size ≤ k → k ∉ [d, bs, bo] := by
    intro k hk hm
    have h1 : d < w.heap.size := (Array.getElem?_eq_some_iff.1 HD.out.cells).1
    have h2 : bs < w.heap.size := by
      obtain ⟨D', ⟨es, clock, hb, _⟩, _⟩ := HD.out.safe
      exact (Array.getElem?_eq_some_iff.1 hb).1
    have h3 : bo < w.heap.size := by
      obtain ⟨D', ⟨es, clock, hb, _⟩, _⟩ := HD.out.opn
      exact (Array.getElem?_eq_some_iff.1 hb).1
    simp at hm
    omega
  simp only [hwt]
  refine (inTurn_ok wt (some ⟨w.heap.size + 1, 0, none⟩) 3 3 (flF w.heap.size) rfl (by omega) (FmI wt d bs bo nb S O) ⟨dev_kept HD.out f6 (by simp) (by simp) (by simp), Fr.refl _ _⟩ ?_ (fun i p hp w' => enF w' _ i p hp) ?_).mono ?_
  · intro i w' hI j p hp
    have h3 := hI.fr.same (hout (w.heap.size + 1) (by omega)) hfl
    refine ⟨_, rfl, ?_⟩
    rw [cell_of_row w' _ j _ _ _ h3]
    match j, hp with
    | 0, hp => cases hp; rfl
    | 1, hp => cases hp; rfl
    | 2, hp => cases hp; rfl
    | n + 3, hp => simp [flF] at hp
  · intro i p hp w' hI
    have hx7 := hI.fr.same (hout _ (Nat.le_refl _)) bx5
    match i, hp, hI with
    | 0, hp, hI =>
      cases hp
      refine (fm1_any w' d bs bo nb S O hI.1 (by omega) hn2 w.heap.size _ hx7).mono ?_
      rintro e w9 ⟨rfl, D9, f9⟩
      exact ⟨rfl, D9, hI.2.trans (f9.mono (by intro k _ hk; simp at hk ⊢; omega))⟩
    | 1, hp, ⟨⟨O', hO, D'⟩, hf⟩ =>
      cases hp
      refine (fm2_any w' d bs bo nb S O' D' w.heap.size _ hx7).mono ?_
      rintro e w9 ⟨rfl, D9, f9⟩
      exact ⟨rfl, ⟨O', hO, D9⟩, hf.trans f9⟩
    | 2, hp, ⟨⟨O', hO, D'⟩, hf⟩ =>
      cases hp
      refine (fm3_any w' d bs bo nb _ _ D' hn w.heap.size _ hx7).mono ?_
      rintro e w9 ⟨rfl, D9, f9⟩
      exact ⟨rfl, ⟨O', hO, D9⟩, hf.trans f9⟩
    | n + 3, hp, hI => simp [flF] at hp
  rintro e w9 ⟨rfl, hI⟩
  go_wp2_with fail
  go_ret
  exact ⟨rfl, hI.1, (f6.mono (by simp)).trans hI.2⟩
end Go.Proofs.YthajipigppndgaaGreat

namespace Go.Proofs.YthajipigppndgaaGreat
open Go.RowKit Go.Maps

theorem decR_nil : decR [] = none := by unfold decR; rw [if_pos (by simp)]

set_option maxHeartbeats 400000 in
set_option maxRecDepth 100000 in
theorem find_zero (w : World) (p : Nat) (x : Lg) (hx : LBox w p x) (h0 : 1 ≤ x.oldest) (h1 : x.oldest ≤ 4611686018427387904) :
    Calls Tryz.prog 253 #[.pointer (some ⟨p, 0, none⟩), .slice none 0 0] w fun e w' => e = .returned (.tuple #[]) ∧ LBox w' p { x with by' := .slice none 0 0, fin := x.oldest, safe := x.oldest } ∧ Fr [p] w w' := by
  have c4 := hx.c4
  have hw := wrapI x.oldest (by omega) (by omega)
  go_enter Tryz.func253, Tryz.ntmps253
  go_wp2
  go_loopw [4, 5] (fun s4 s5 wr => s4 = .int .i64 0 ∧ s5 = .int .i64 1 ∧ wr = w) (fun _ _ _ => 0)
  case atStart => exact ⟨rfl, rfl, rfl⟩
  case round =>
    obtain ⟨rfl, rfl, hwr⟩ := hrel
    subst hwr
    go_wp2_with fail
    refine (get_any _ none 0 0 [] rfl (by omega) (by omega) (BytesAt.nil _ _)).mono ?_
    rintro e w2 hG
    rcases hG with ⟨-, rfl, f2⟩ | ⟨r, n, s, hd, -⟩
    · unfold recV zeroR zeroS
      go_wp2_with fail
      have f3 := f2.alloc (.cells #[.int .i64 0, .int .i64 0, .int .u8 ((0 : Nat) : Int), .int .i64 0, .int .i64 0, .int .i64 0, .int .i64 0, .int .i64 0, .slice none ([] : List UInt8).length 0, .slice none ([] : List UInt8).length 0] 148)
      generalize hw3 : w2.alloc _ = w3 at f3 ⊢
      clear hw3
      go_quiet (fail)
      have f4 := f3.drewN nq
      generalize w3.drewN nq = w4 at f4 ⊢
      have L4 := hx.kept f4 (by simp)
      go_wp2_with fail
      refine (copied_any w4 none 0 0 [] rfl (BytesAt.nil _ _) (by omega)).mono ?_
      rintro e w5 ⟨ad, rfl, cp, f5⟩
      have had : ad = none := by
        cases ad with
        | none => rfl
        | some a => obtain ⟨_, _, _, _, h⟩ := cp.at' a rfl; simp at h
      subst had
      have L5 := L4.kept f5 (by simp)
      have F5 := f4.trans f5
      have k7 := L5.c7
      have z7 := L5.fz 7
      have L6 := L5.s7 (.slice none 0 0)
      have k4 := L6.c4
      have k6 := L6.c6
      have z6 := L6.fz 6
      have L7 := L6.s6 x.oldest
      have k66 := L7.c6
      have k5 := L7.c5
      have z5 := L7.fz 5
      go_wp2_with fail
      refine bodyPost_end (results_none Tryz.results253 _ _ _) rfl ⟨rfl, L7.s5 x.oldest, ?_⟩
      exact (((F5.mono (M := [p]) (fun _ _ e => nomatch e)).trans (fr_set _ p 7 _)).trans (fr_set _ p 6 _)).trans (fr_set _ p 5 _)
    · rw [decR_nil] at hd; cases hd

end Go.Proofs.YthajipigppndgaaGreat

namespace Go.Proofs.YthajipigppndgaaGreat
open Go.RowKit Go.Maps

theorem info2 : (Tryz.prog.info? 2).map (fun i => (i.zero, i.size, i.bytes)) = some (some (.int .i64 0), 1, 8) := by kernel_rfl
theorem info2' : ∃ i, Tryz.prog.info? 2 = some i ∧ i.zero = some (.int .i64 0) ∧ i.size = 1 ∧ i.bytes = 8 := by
  have h := info2
  cases hi : Tryz.prog.info? 2 with
  | none => rw [hi] at h; cases h
  | some i =>
    rw [hi] at h
    simp at h
    exact ⟨i, rfl, h.1, h.2.1, h.2.2⟩
def lsV (ls : List Int) : List Value := ls.map (Value.int .i64)
/-- A row of numbers in memory, with its room. -/
def LsAt (w : World) (ad : Option Addr) (n c : Nat) (ls : List Int) : Prop := w.ownsRow 0 2 1 (.slice ad n c) n (lsV ls)
/-- A row of bytes in memory, with its room. -/
def BsAt (w : World) (ad : Option Addr) (n c : Nat) (l : List UInt8) : Prop := w.ownsRow 0 5 1 (.slice ad n c) n (arr l).toList

theorem own0_kept {w w' : World} {e : TypeId} {v : Value} {n : Nat} {xs : List Value} {L : List Nat} (h : w.ownsRow 0 e 1 v n xs) (f : Fr L w w') (hL : ∀ g ∈ L, ∀ cur t, w.heap[g]? = some (.cells cur t) → t ≠ e) : w'.ownsRow 0 e 1 v n xs := by
  obtain ⟨h1, h2⟩ := h
  refine ⟨h1, ?_⟩
  rcases h2 with hn | ⟨g, cap, cur, hv, hb, hg, r⟩
  · exact Or.inl hn
  · exact Or.inr ⟨g, cap, cur, hv, hb, f.same (fun hm => hL g hm _ _ hg rfl) hg, r⟩
theorem own0_type {w : World} {e : TypeId} {ad : Option Addr} {n c m : Nat} {xs : List Value} (h : w.ownsRow 0 e 1 (.slice ad n c) m xs) : ∀ g ∈ (Value.ownBlock (.slice ad n c)).toList, ∃ cur, w.heap[g]? = some (.cells cur e) := by
  intro g hg
  rcases h.2 with ⟨hn, _⟩ | ⟨g', cap, cur, hv, hb, hg', r⟩
  · cases hn
    simp [Value.ownBlock] at hg
  · cases hv
    simp [Value.ownBlock] at hg
    subst hg
    exact ⟨cur, hg'⟩
theorem BsAt.at {w : World} {ad : Option Addr} {n c : Nat} {l : List UInt8} (h : BsAt w ad n c l) (hn : 0 < n) (hl : l.length = n) : ∃ g, ad = some ⟨g, 0, none⟩ ∧ BytesAt w (some ⟨g, 0, none⟩) l ∧ n ≤ c := by
  rcases h.2 with ⟨_, h0⟩ | ⟨g, cap, cur, hv, hb, hg, hcap, hmx, hsz, htk⟩
  · omega
  · cases hv
    refine ⟨g, rfl, ?_, by omega⟩
    intro j u hu
    refine ⟨g, 0, rfl, ?_⟩
    rw [Nat.zero_add, cell_of_row w g j _ _ _ hg]
    have hj : j < n := by
      have := (List.getElem?_eq_some_iff.1 hu).1
      simp [arr, hl] at this
      omega
    rw [← hu, ← htk, List.getElem?_take]
    simp [hj]
theorem LsAt.at {w : World} {ad : Option Addr} {n c : Nat} {ls : List Int} (h : LsAt w ad n c ls) (hn : 0 < n) (hl : ls.length = n) : ∃ g, ad = some ⟨g, 0, none⟩ ∧ n ≤ c ∧ ∀ j k, ls[j]? = some k → w.cell? ⟨g, j, none⟩ = some (.int .i64 k) := by
  rcases h.2 with ⟨_, h0⟩ | ⟨g, cap, cur, hv, hb, hg, hcap, hmx, hsz, htk⟩
  · omega
  · cases hv
    refine ⟨g, rfl, by omega, ?_⟩
    intro j k hj
    rw [cell_of_row w g j _ _ _ hg]
    have hj' : j < n := by
      have := (List.getElem?_eq_some_iff.1 hj).1
      omega
    have h2 : (lsV ls)[j]? = some (.int .i64 k) := by simp [lsV, hj]
    rw [← h2, ← htk, List.getElem?_take]
    simp [hj']
theorem LsAt.nil (w : World) : LsAt w none 0 0 [] := ⟨by simp [lsV], Or.inl ⟨rfl, rfl⟩⟩
theorem BsAt.nil (w : World) : BsAt w none 0 0 [] := ⟨by simp [arr], Or.inl ⟨rfl, rfl⟩⟩
theorem CopAt.bs {w0 w : World} {ad : Option Addr} {l : List UInt8} {n : Nat} (h : CopAt w0 w ad l) (hl : l.length = n) (hn : n ≤ 1000000) : BsAt w ad n n l := by
  subst hl
  cases ad with
  | none =>
    have : l = [] := List.eq_nil_of_length_eq_zero (h.nil rfl)
    subst this
    exact BsAt.nil w
  | some a =>
    obtain ⟨g, rfl, _, b, _⟩ := h.at' a rfl
    exact ⟨by simp [arr], Or.inr ⟨g, l.length, arr l, rfl, by omega, b, Nat.le_refl _, by unfold maxLen; omega, by simp [arr_size], List.take_of_length_le (by simp [arr])⟩⟩

/-- Where a row lies behind an append: where it lay, or in new memory. -/
def NewOr (ad : Option Addr) (n c g k : Nat) : Prop := Value.ownBlock (.slice ad n c) = some g ∨ k ≤ g
theorem NewOr.none {ad : Option Addr} {n c g k : Nat} (h : NewOr ad n c g k) : ad = none → k ≤ g := by
  intro e
  subst e
  rcases h with h | h
  · simp [Value.ownBlock] at h
  · exact h
theorem new_of {ad : Option Addr} {n c m c' g k : Nat} (h : Value.ownBlock (.slice (some ⟨g, 0, none⟩) m c') = Value.ownBlock (.slice ad n c) ∨ Value.ownBlock (.slice (some ⟨g, 0, none⟩) m c') = some k) : NewOr ad n c g k := by
  rcases h with h | h
  · exact Or.inl (by rw [← h]; rfl)
  · simp [Value.ownBlock] at h
    exact Or.inr (by omega)

section
variable {ops : Array Oper} {rest : List Oper} {o : Oper} {a : Act} {w : World} {Q : Exit → Act → World → Prop}
/-- append of bytes to a row of bytes. -/
theorem wp_appBB (hgd : o.guard = none) (s x : Operand) (ho : o.op = .call { callee := .builtin .append, args := #[s, x], argTypes := #[26, 26] }) (ad : Option Addr) (n c : Nat) (l : List UInt8) (g2 o2 m c2 : Nat) (l2 : List UInt8) (hs : a.eval s = .slice ad n c) (hx : a.eval x = .slice (some ⟨g2, o2, none⟩) m c2)
    (hown : BsAt w ad n c l) (hl2 : l2.length = m) (hb : BytesAt w (some ⟨g2, o2, none⟩) l2) (hm : n + m ≤ 1000000) (hm0 : 0 < m)
    (h : ∀ g c' w', BsAt w' (some ⟨g, 0, none⟩) (n + m) c' (l ++ l2) → Fr (Value.ownBlock (.slice ad n c)).toList w w' → NewOr ad n c g w.heap.size → wpList Tryz.prog ops Q rest (a.put o.dst (.slice (some ⟨g, 0, none⟩) (n + m) c')) w') : wpList Tryz.prog ops Q (o :: rest) a w :=
  wpList_plain hgd fun K hK => by
    obtain ⟨i, hi, hz, hsz, hbb⟩ := info5'
    obtain ⟨v', w', hrun, h2, h3, h4, h5⟩ := run_append_own_at (P := Tryz.prog) w 0 26 o.type 5 i (.int .u8 0) 1 1 Tryz.underlying26 hi hz hsz hbb rfl (by omega) _ n (arr l).toList hown ⟨g2, o2, none⟩ m c2 (arr l2).toList (by simp [arr, hl2])
      (by
        intro j u hu
        obtain ⟨b', off, e, hc⟩ := hb j u hu
        cases e
        rw [Addr.add_mid]
        exact hc) (arr_one l2) (by unfold maxLen; omega) (by omega) (Nat.zero_le _)
    rcases h2.2 with ⟨e, hn0⟩ | ⟨g, c', cur, e, r⟩
    · omega
    · subst e
      have h2' : BsAt w' (some ⟨g, 0, none⟩) (n + m) c' (l ++ l2) := by
        unfold BsAt
        rw [← arr_append]
        exact h2
      unfold Oper.wp execOp
      simp [ho, resolve, invoke, builtin, hs, hx, hrun, Result.andThen]
      exact hK _ _ (h _ _ _ h2' ((Fr.refl _ _).grown h3 (fun j e _ => by simp [e])) (new_of h5))
end

end Go.Proofs.YthajipigppndgaaGreat

namespace Go.Proofs.YthajipigppndgaaGreat
open Go.RowKit Go.Maps

theorem lbox_type {w : World} {p : Nat} {x : Lg} (h : LBox w p x) (e : TypeId) (he : e ≠ 153) : ∀ g ∈ [p], ∀ cur t, w.heap[g]? = some (.cells cur t) → t ≠ e := by
  intro g hg cur t hc
  simp at hg
  subst hg
  rw [h] at hc
  cases hc
  exact fun h => he h.symm

end Go.Proofs.YthajipigppndgaaGreat

namespace Go.Proofs.YthajipigppndgaaGreat
open Go.RowKit Go.Maps

set_option maxHeartbeats 400000 in
set_option maxRecDepth 100000 in
theorem open_zero (w : World) (d bs bo : Nat) (nb a : Int) (S O : Dv.Tab) (hd : Dv.Dev w d bs bo nb a false S O) (first count T : Int) (f0 : 0 ≤ first) (f1 : first + count ≤ nb) (c0 : 4 ≤ count) (t0 : 1 ≤ T) (t1 : T ≤ 2147483647) (hP : stampP ((Dv.latest S O first).take 64) ≠ 1) :
    Calls Tryz.prog 198 #[.pointer (some ⟨d, 0, none⟩), .int .i64 first, .int .i64 count, .int .i64 1, .int .i64 T] w fun e w' => ∃ p, e = .returned (.tuple #[.pointer (some ⟨p, 0, none⟩), .int .i64 0]) ∧ LBox w' p ⟨.pointer (some ⟨d, 0, none⟩), first, count, T, 1, 1, 1, .slice none 0 0, 1, .slice none 0 0⟩ ∧ w.heap.size ≤ p ∧ Fr [] w w' := by
  have n2 := hd.n2
  have q0 : (nb == 0) = false := by rw [beq_eq_false_iff_ne]; omega
  have q1 := wrapI (nb - count) (by omega) (by omega)
  have q2 : ¬ nb - count < first := by omega
  have q3 : ¬ first < 0 := by omega
  have q4 : ¬ count < 4 := by omega
  have q5 : ¬ T < 1 := by omega
  have q6 : ¬ 2147483647 < T := by omega
  have HP := hidI hP
  have HD := hidI hd
  have lb : LBox (w.alloc (.cells (logV ⟨.pointer (some ⟨d, 0, none⟩), first, count, T, 1, 0, 0, .slice none 0 0, 1, .slice none 0 0⟩) 153)) w.heap.size ⟨.pointer (some ⟨d, 0, none⟩), first, count, T, 1, 0, 0, .slice none 0 0, 1, .slice none 0 0⟩ := heap_alloc_new w _
  have f1' : Fr [] w (w.alloc (.cells (logV ⟨.pointer (some ⟨d, 0, none⟩), first, count, T, 1, 0, 0, .slice none 0 0, 1, .slice none 0 0⟩) 153)) := (Fr.refl [] w).alloc _
  unfold logV at lb f1'
  clear hP hd
  go_enter Tryz.func198, Tryz.ntmps198
  go_wp2_with (go_at_call 120; refine (Dv.blocks_dev HD.out).mono ?_; rintro e w ⟨rfl, rfl⟩)
  generalize w.alloc (.cells #[.pointer (some ⟨d, 0, none⟩), .int .i64 first, .int .i64 count, .int .i64 T, .int .i64 1, .int .i64 0, .int .i64 0, .slice none 0 0, .int .i64 1, .slice none 0 0] 153) = w1 at lb f1' ⊢
  have HD1 := hidI (dev_kept HD.out f1' (by simp) (by simp) (by simp))
  refine (stand_no w1 d bs bo nb a S O HD1.out first count T f0 (by omega) (by omega) c0 (by omega) HP.out).mono ?_
  rintro e w2 ⟨rfl, f2⟩
  have lb2 := lb.kept f2 (by simp)
  go_wp2_with fail
  refine (find_zero w2 _ _ lb2 (by show (1 : Int) ≤ 1; omega) (by show (1 : Int) ≤ 4611686018427387904; omega)).mono ?_
  rintro e w3 ⟨rfl, lb3, f3⟩
  have k7 : World.cell? _ ⟨w.heap.size, 7, none⟩ = some (.slice none 0 0) := lb3.c7
  go_wp2_with fail
  go_ret2
  exact ⟨_, rfl, lb3, Nat.le_refl _, (f1'.trans f2).then f3 (fun i hi hm => by simp at hm; omega)⟩

end Go.Proofs.YthajipigppndgaaGreat

namespace Go.Proofs.YthajipigppndgaaGreat
open Go.RowKit Go.Maps

set_option maxHeartbeats 400000 in
set_option maxRecDepth 100000 in
theorem room_any (w : World) (p d : Nat) (x : Lg) (hx : LBox w p x) (hd : x.dv = .pointer (some ⟨d, 0, none⟩)) (k0 : 4 ≤ x.count) (k1 : x.count ≤ 65536) (h0 : 1 ≤ x.oldest) (h1 : x.oldest ≤ x.fin) (h2 : x.fin ≤ 4611686018427387904) :
    Calls Tryz.prog 59 #[.pointer (some ⟨p, 0, none⟩)] w fun e w' => ∃ nq, e = .returned (.int .i64 (408 * (x.count - 1) - (x.fin - x.oldest))) ∧ w' = w.drewN nq := by
  obtain ⟨dv, first, count, turn, oldest, safe, fin, by_, from_, ls⟩ := x
  dsimp only at hd k0 k1 h0 h1 h2 ⊢
  subst hd
  have c0 : w.cell? ⟨p, 0, none⟩ = some (.pointer (some ⟨d, 0, none⟩)) := hx.c0
  have c4 : w.cell? ⟨p, 4, none⟩ = some (.int .i64 oldest) := hx.c4
  have c6 : w.cell? ⟨p, 6, none⟩ = some (.int .i64 fin) := hx.c6
  have q1 := wrapI (fin - oldest) (by omega) (by omega)
  have q2 := wrapI (408 * (count - 1) - (fin - oldest)) (by omega) (by omega)
  have LD : Hid (∀ n, (w.drewN n).cell? ⟨p, 2, none⟩ = some (.int .i64 count)) := hidI (fun n => (hx.kept ((Fr.refl [] w).drewN n) (by simp)).c2)
  go_enter Tryz.func59, Tryz.ntmps59
  go_wp2_with (go_at_call 99; refine (lmade_yes _ p d c0).mono ?_; rintro e w ⟨rfl, rfl⟩)
  go_quiet ((go_at_call 109; exact Calls.quiet_of_same (most_any _ p count (LD.out _) k0 k1)))
  go_wp2
  go_ret
  exact ⟨nq, rfl, rfl⟩

section
variable {ops : Array Oper} {rest : List Oper} {o : Oper} {a : Act} {w : World} {Q : Exit → Act → World → Prop}
/-- append of one number, as a step of a region that draws its order. -/
theorem step_appL {K : Act → World → Prop} {X : Prop} (hgd : o.guard = none) (s x : Operand) (ho : o.op = .call { callee := .builtin .append, args := #[s, x], argTypes := #[151, 151] }) (ad : Option Addr) (n c : Nat) (ls : List Int) (b : Nat) (k : Int) (hs : a.eval s = .slice ad n c) (hx : a.eval x = .slice (some ⟨b, 0, none⟩) 1 1)
    (hown : LsAt w ad n c ls) (hb : w.heap[b]? = some (.cells #[.int .i64 k] 2)) (hm : n + 1 ≤ 1000000)
    (h : ∀ g c' w', LsAt w' (some ⟨g, 0, none⟩) (n + 1) c' (ls ++ [k]) → Fr (Value.ownBlock (.slice ad n c)).toList w w' → NewOr ad n c g w.heap.size → K (a.put o.dst (.slice (some ⟨g, 0, none⟩) (n + 1) c')) w') :
    if Region.wanted o (yielded ops a.tmps) = true then Oper.wp Tryz.prog o a w K Q else X := by
  have hw : Region.wanted o (yielded ops a.tmps) = true := by simp [Region.wanted, hgd]
  rw [if_pos hw]
  obtain ⟨i, hi, hz, hsz, hbb⟩ := info2'
  obtain ⟨v', w', hrun, h2, h3, h4, h5⟩ := run_append_own_at (P := Tryz.prog) w 0 151 o.type 2 i (.int .i64 0) 1 8 Tryz.underlying151 hi hz hsz hbb rfl (by omega) _ n (lsV ls) hown ⟨b, 0, none⟩ 1 1 [.int .i64 k] (by simp)
    (by
      intro j x hx
      cases j with
      | zero =>
        simp at hx
        subst hx
        rw [Addr.add_mid]
        exact cell_of_row w b 0 _ _ _ hb
      | succ j => simp at hx) (by intro x hx; simp at hx; subst hx; rfl) (by unfold maxLen; omega) (by omega) (Nat.zero_le _)
  rcases h2.2 with ⟨e, hn0⟩ | ⟨g, c', cur, e, r⟩
  · omega
  · subst e
    have h2' : LsAt w' (some ⟨g, 0, none⟩) (n + 1) c' (ls ++ [k]) := by
      unfold LsAt lsV
      rw [List.map_append]
      exact h2
    unfold Oper.wp
    simp [execOp, ho, resolve, invoke, builtin, hs, hx, hrun, Result.andThen]
    exact h _ _ _ h2' ((Fr.refl _ _).grown h3 (fun j e _ => by simp [e])) (new_of h5)
end

theorem notin_of {w : World} {L : List Nat} {e t : TypeId} {b : Nat} {c2 : Array Value} (hT : ∀ g ∈ L, ∃ cur, w.heap[g]? = some (.cells cur e)) (h : w.heap[b]? = some (.cells c2 t)) (ht : t ≠ e) : b ∉ L := by
  intro hb
  obtain ⟨cur, hc⟩ := hT b hb
  rw [h] at hc
  cases hc
  exact ht rfl
theorem types_of {w : World} {L : List Nat} {e e' : TypeId} (hT : ∀ g ∈ L, ∃ cur, w.heap[g]? = some (.cells cur e)) (he : e ≠ e') : ∀ g ∈ L, ∀ cur t, w.heap[g]? = some (.cells cur t) → t ≠ e' := by
  intro g hg cur t hc
  obtain ⟨cur', hc'⟩ := hT g hg
  rw [hc] at hc'
  cases hc'
  exact he

set_option maxHeartbeats 1000000 in
set_option maxRecDepth 100000 in
theorem append_ok2 (w : World) (p d : Nat) (dv : Value) (first count turn oldest safe fin from_ : Int) (a1 a2 : Option Addr) (n1 n2 c1 c2 : Nat) (hx : LBox w p ⟨dv, first, count, turn, oldest, safe, fin, .slice a1 n1 c1, from_, .slice a2 n2 c2⟩) (hd : dv = .pointer (some ⟨d, 0, none⟩)) (k0 : 4 ≤ count) (k1 : count ≤ 65536) (h0 : 1 ≤ oldest) (h1 : oldest ≤ fin) (h2 : fin ≤ 2305843009213693952)
    (lb : List UInt8) (ls : List Int) (hbs : BsAt w a1 n1 c1 lb) (hls : LsAt w a2 n2 c2 ls) (hn1 : n1 ≤ 500000) (hn2 : n2 ≤ 500000)
    (r : Rec) (s : Spots) (hs : SpotsAt w r s) (hr : rightB { r with lsn := fin, turn := turn } = true) (hroom : ((encL { r with lsn := fin, turn := turn }).length : Int) ≤ 408 * (count - 1) - (fin - oldest)) :
    Calls Tryz.prog 169 #[.pointer (some ⟨p, 0, none⟩), .agg (recV r s)] w fun e w' => e = .returned (.tuple #[.int .i64 fin, .int .i64 0]) ∧ ∃ g1 d1 g2 d2, LBox w' p ⟨dv, first, count, turn, oldest, safe, fin + ((encL { r with lsn := fin, turn := turn }).length : Int), .slice (some ⟨g1, 0, none⟩) (n1 + (encL { r with lsn := fin, turn := turn }).length) d1, from_, .slice (some ⟨g2, 0, none⟩) (n2 + 1) d2⟩ ∧ BsAt w' (some ⟨g1, 0, none⟩) (n1 + (encL { r with lsn := fin, turn := turn }).length) d1 (lb ++ encL { r with lsn := fin, turn := turn }) ∧ LsAt w' (some ⟨g2, 0, none⟩) (n2 + 1) d2 (ls ++ [fin]) ∧ NewOr a1 n1 c1 g1 w.heap.size ∧ NewOr a2 n2 c2 g2 w.heap.size ∧ Fr (p :: ((Value.ownBlock (.slice a1 n1 c1)).toList ++ (Value.ownBlock (.slice a2 n2 c2)).toList)) w w' := by
  subst hd
  have hbb := body_bounds hr
  have HEL : Hid ((encL { r with lsn := fin, turn := turn }).length = 18 + (bodyL { r with lsn := fin, turn := turn }).length) := hidI (encL_length _)
  obtain ⟨N, HN⟩ : ∃ N, Hid ((encL { r with lsn := fin, turn := turn }).length = N) := ⟨_, rfl⟩
  have hN : 35 ≤ N ∧ N ≤ 1067 := by rw [← HN.out, HEL.out]; omega
  rw [HN.out] at hroom ⊢
  have HPU : Hid (∀ w', Fr [] w w' → Calls Tryz.prog 237 #[.agg (recV { r with lsn := fin, turn := turn } s)] w' fun e w'' => ∃ v, e = .returned (.tuple #[v, .int .i64 0]) ∧ Own w' w'' v N (arr (encL { r with lsn := fin, turn := turn })).toList) := hidI (fun w' f => by rw [← HN.out]; exact put_ok w' { r with lsn := fin, turn := turn } s ⟨(hs.kept f).b1, (hs.kept f).b2, hs.n1, hs.n2⟩ hr)
  generalize hE : encL { r with lsn := fin, turn := turn } = E at HPU HN
  have rb : RBox (w.alloc (.cells (recV r s) 148)) w.heap.size r s := heap_alloc_new w _
  have f1 : Fr [] w (w.alloc (.cells (recV r s) 148)) := (Fr.refl [] w).alloc _
  have hpl := hx.lt
  unfold RBox recV at rb
  unfold recV at f1
  unfold recV at HPU
  unfold recV
  clear hbb hr HEL hE
  have HX := hidI hx
  have c0 : (w.alloc (.cells #[.int .i64 r.lsn, .int .i64 r.turn, .int .u8 (r.kind : Int), .int .i64 r.tx, .int .i64 r.prev, .int .i64 r.next, .int .i64 r.block, .int .i64 r.off, .slice s.a1 r.old.length s.c1, .slice s.a2 r.new.length s.c2] 148)).cell? ⟨p, 0, none⟩ = some (.pointer (some ⟨d, 0, none⟩)) := (hx.kept f1 (by simp)).c0
  go_enter Tryz.func169, Tryz.ntmps169
  go_wp2_with fail
  generalize w.alloc (.cells #[.int .i64 r.lsn, .int .i64 r.turn, .int .u8 (r.kind : Int), .int .i64 r.tx, .int .i64 r.prev, .int .i64 r.next, .int .i64 r.block, .int .i64 r.off, .slice s.a1 r.old.length s.c1, .slice s.a2 r.new.length s.c2] 148) = w1 at rb f1 c0 ⊢
  refine (lmade_yes _ p d c0).mono ?_
  rintro e w1 ⟨rfl, rfl⟩
  obtain ⟨Z, HZ⟩ : ∃ Z, Hid (w.heap.size = Z) := ⟨_, rfl⟩
  rw [HZ.out] at rb hpl ⊢
  have L1 := hx.kept f1 (by simp)
  have R1 : RBox w1 Z r s := rb
  have c6 : w1.cell? ⟨p, 6, none⟩ = some (.int .i64 fin) := L1.c6
  have c3 : w1.cell? ⟨p, 3, none⟩ = some (.int .i64 turn) := L1.c3
  have x0 := R1.c0
  have x1 := R1.c1
  have z0 := R1.fz 0
  have z1 := R1.fz 1
  clear rb
  go_wp2_with fail
  go_region
  have R2 := ((R1.s0 fin).s1 turn).kept (Fr.refl [] _).drew (by simp)
  have hZp : Z ≠ p := by omega
  have fz2 : Fr [Z] w1 ((w1.setCell ⟨Z, 0, none⟩ (.int .i64 fin)).setCell ⟨Z, 1, none⟩ (.int .i64 turn)).drew := ((fr_set w1 Z 0 _).trans (fr_set _ Z 1 _)).drew
  have L2 := L1.kept fz2 (by simpa using hZp.symm)
  have F2 : Fr [] w ((w1.setCell ⟨Z, 0, none⟩ (.int .i64 fin)).setCell ⟨Z, 1, none⟩ (.int .i64 turn)).drew := f1.then fz2 (fun i hi hm => by simp at hm; have h := HZ.out; omega)
  clear x0 x1 z0 z1 c3 c6 c0 R1 L1 f1 fz2
  generalize ((w1.setCell ⟨Z, 0, none⟩ (.int .i64 fin)).setCell ⟨Z, 1, none⟩ (.int .i64 turn)).drew = w2 at R2 L2 F2 ⊢
  have x0 : w2.cell? ⟨Z, 0, none⟩ = some (.int .i64 fin) := R2.c0
  have x1 : w2.cell? ⟨Z, 1, none⟩ = some (.int .i64 turn) := R2.c1
  have x2 : w2.cell? ⟨Z, 2, none⟩ = some (.int .u8 (r.kind : Int)) := R2.c2
  have x3 : w2.cell? ⟨Z, 3, none⟩ = some (.int .i64 r.tx) := R2.c3
  have x4 : w2.cell? ⟨Z, 4, none⟩ = some (.int .i64 r.prev) := R2.c4
  have x5 : w2.cell? ⟨Z, 5, none⟩ = some (.int .i64 r.next) := R2.c5
  have x6 : w2.cell? ⟨Z, 6, none⟩ = some (.int .i64 r.block) := R2.c6
  have x7 : w2.cell? ⟨Z, 7, none⟩ = some (.int .i64 r.off) := R2.c7
  have x8 : w2.cell? ⟨Z, 8, none⟩ = some (.slice s.a1 r.old.length s.c1) := R2.c8
  have x9 : w2.cell? ⟨Z, 9, none⟩ = some (.slice s.a2 r.new.length s.c2) := R2.c9
  go_wp2_with fail
  refine (HPU.out w2 F2).mono ?_
  rintro e w3 ⟨v, rfl, o3⟩
  obtain ⟨g3, c3, rfl, b3, hg3, -⟩ := own_at o3 (by omega) HN.out
  have L3 := L2.kept o3.2 (by simp)
  have R3 := R2.kept o3.2 (by simp)
  have F3 := F2.trans o3.2
  clear x0 x1 x2 x3 x4 x5 x6 x7 x8 x9 L2 R2 F2 o3 HPU
  go_wp2_with fail
  refine (room_any w3 p d _ L3 rfl k0 k1 h0 h1 (by dsimp only; omega)).mono ?_
  rintro e w4 ⟨nq, rfl, hw4⟩
  have fd : Fr [] w3 w4 := by rw [hw4]; exact (Fr.refl [] w3).drewN nq
  clear hw4
  have L4 := L3.kept fd (by simp)
  have R4 := R3.kept fd (by simp)
  have F4 := F3.trans fd
  have b4 := b3.kept fd (by simp)
  have hb4 := own0_kept (L := []) hbs F4 (fun g' hg' => nomatch hg')
  have hl4 := own0_kept (L := []) hls F4 (fun g' hg' => nomatch hg')
  have q1 : ¬ 408 * (count - 1) - (fin - oldest) < (N : Int) := by omega
  have c7 : w4.cell? ⟨p, 7, none⟩ = some (.slice a1 n1 c1) := L4.c7
  clear L3 R3 F3 fd b3
  dsimp only
  have T1 := hidI (own0_type hb4)
  go_wp2_with (refine wp_appBB rfl _ _ rfl a1 n1 c1 lb g3 0 N c3 _ rfl rfl hb4 HN.out b4 (by omega) (by omega) ?_; intro g5 d5 w5 bs5 f5 n5; have N5 := hidI n5; clear n5; have L5 := L4.kept f5 (notin_of T1.out L4 (by decide)); have R5 := R4.kept f5 (notin_of T1.out R4 (by decide)); have ls5 := own0_kept hl4 f5 (types_of T1.out (by decide)); have e7 : w5.cell? ⟨p, 7, none⟩ = some (.slice a1 n1 c1) := L5.c7; have z7 := L5.fz 7)
  have L6 := L5.s7 (.slice (some ⟨g5, 0, none⟩) (n1 + N) d5)
  have f6 := fr_set w5 p 7 (.slice (some ⟨g5, 0, none⟩) (n1 + N) d5)
  have R6 := R5.kept f6 (by simpa using hZp)
  have bs6 := own0_kept bs5 f6 (lbox_type L5 5 (by decide))
  have ls6 := own0_kept ls5 f6 (lbox_type L5 2 (by decide))
  clear c7 e7 z7 L4 R4 hb4 hl4 L5 R5 bs5 ls5 b4
  dsimp only at L6
  generalize w5.setCell ⟨p, 7, none⟩ (.slice (some ⟨g5, 0, none⟩) (n1 + N) d5) = w6 at L6 R6 bs6 ls6 f6 ⊢
  have c9 : w6.cell? ⟨p, 9, none⟩ = some (.slice a2 n2 c2) := L6.c9
  have c6 : w6.cell? ⟨p, 6, none⟩ = some (.int .i64 fin) := L6.c6
  have T2 := hidI (own0_type ls6)
  have FD : Fr [] w6 (w6.drew.alloc (.cells #[.int .i64 fin] 2)) := (Fr.refl [] w6).drew.alloc _
  have lsD := own0_kept (L := []) ls6 FD (fun g' hg' => nomatch hg')
  have LD := L6.kept FD (by simp)
  have TD := hidI (own0_type lsD)
  have HLs := hidI lsD
  have HLD := hidI LD
  have kA : (w6.alloc (.cells #[.int .i64 fin] 2)).cell? ⟨p, 9, none⟩ = some (.slice a2 n2 c2) := (L6.kept ((Fr.refl [] w6).alloc _) (by simp)).c9
  clear lsD LD
  go_region_law ((refine step_appL (by rfl) _ _ (by rfl) a2 n2 c2 ls w6.heap.size fin rfl rfl HLs.out (heap_alloc_new w6.drew _) (by omega) ?_; intro g7 d7 w7 ls7 f7 n7; have N7 := hidI n7; clear n7; have L7 := HLD.out.kept f7 (notin_of TD.out HLD.out (by decide)); have e9 : w7.cell? ⟨p, 9, none⟩ = some (.slice a2 n2 c2) := L7.c9; have z9 := L7.fz 9))
  all_goals
    have hwf := wrapI (fin + (N : Int)) (by omega) (by omega)
    have L8 := L7.s9 (.slice (some ⟨g7, 0, none⟩) (n2 + 1) d7)
    have c86 : World.cell? _ ⟨p, 6, none⟩ = some (.int .i64 fin) := L8.c6
    have z86 := L8.fz 6
    have L9 := L8.s6 (fin + (N : Int))
    have R7 := (R6.kept FD (by simp)).kept f7 (notin_of TD.out (R6.kept FD (by simp)) (by decide))
    have R9 := (R7.kept (fr_set w7 p 9 (.slice (some ⟨g7, 0, none⟩) (n2 + 1) d7)) (by simpa using hZp)).kept (fr_set _ p 6 (.int .i64 (fin + (N : Int)))) (by simpa using hZp)
    have x0 : World.cell? _ ⟨Z, 0, none⟩ = some (.int .i64 fin) := R9.c0
    have bs7 := own0_kept (own0_kept (L := []) bs6 FD (fun g' hg' => nomatch hg')) f7 (types_of TD.out (by decide))
    have HB := hidI (own0_kept (own0_kept bs7 (fr_set w7 p 9 (.slice (some ⟨g7, 0, none⟩) (n2 + 1) d7)) (lbox_type L7 5 (by decide))) (fr_set _ p 6 (.int .i64 (fin + (N : Int)))) (lbox_type L8 5 (by decide)))
    have HS := hidI (own0_kept (own0_kept ls7 (fr_set w7 p 9 (.slice (some ⟨g7, 0, none⟩) (n2 + 1) d7)) (lbox_type L7 2 (by decide))) (fr_set _ p 6 (.int .i64 (fin + (N : Int)))) (lbox_type L8 2 (by decide)))
    clear bs7 bs6 ls6 ls7 c9 c6 kA
    go_wp2_with fail
    go_ret2
    refine ⟨rfl, g5, d5, g7, d7, L9, HB.out, HS.out, N5.out.imp id (fun h1 => (by have h2 := F4.size; omega)), N7.out.imp id (fun h1 => (by simp at h1; have h2 := F4.size; have h3 := f5.size; have h4 := f6.size; omega)), ?_⟩
    have q1 : Fr (p :: ((Value.ownBlock (.slice a1 n1 c1)).toList ++ (Value.ownBlock (.slice a2 n2 c2)).toList)) w w4 := F4.mono (fun _ _ e => nomatch e)
    have q2 : Fr (p :: ((Value.ownBlock (.slice a1 n1 c1)).toList ++ (Value.ownBlock (.slice a2 n2 c2)).toList)) w4 w5 := f5.mono (fun k _ hk => List.mem_cons_of_mem _ (List.mem_append_left _ hk))
    have q3 : Fr (p :: ((Value.ownBlock (.slice a1 n1 c1)).toList ++ (Value.ownBlock (.slice a2 n2 c2)).toList)) w5 w6 := f6.mono (fun k _ hk => by simp at hk; subst hk; exact List.mem_cons_self)
    have q4 : Fr (p :: ((Value.ownBlock (.slice a1 n1 c1)).toList ++ (Value.ownBlock (.slice a2 n2 c2)).toList)) w6 _ := FD.mono (fun _ _ e => nomatch e)
    have q5 : Fr (p :: ((Value.ownBlock (.slice a1 n1 c1)).toList ++ (Value.ownBlock (.slice a2 n2 c2)).toList)) _ w7 := f7.mono (fun k _ hk => List.mem_cons_of_mem _ (List.mem_append_right _ hk))
    have q6 : Fr (p :: ((Value.ownBlock (.slice a1 n1 c1)).toList ++ (Value.ownBlock (.slice a2 n2 c2)).toList)) w7 _ := ((fr_set w7 p 9 (.slice (some ⟨g7, 0, none⟩) (n2 + 1) d7)).trans (fr_set _ p 6 (.int .i64 (fin + (N : Int))))).mono (fun k _ hk => by simp at hk; subst hk; exact List.mem_cons_self)
    exact ((((q1.trans q2).trans q3).trans q4).trans q5).trans q6

end Go.Proofs.YthajipigppndgaaGreat

namespace Go.Proofs.YthajipigppndgaaGreat
open Go.RowKit Go.Maps

theorem resR1 {fn : Func} {p : Tmp} (h : fn.results = #[.cell p 148]) (tmps : Array Value) (w : World) (b : Nat) (r : Rec) (s : Spots) (hp : tmps.getD p undef = .pointer (some ⟨b, 0, none⟩)) (hg : RBox w b r s) :
    (results fn tmps).run Tryz.prog w = .ok (.agg (recV r s)) w := by
  have hl := run_loadVar_row w b 148 148 (recV r s) (0, 0) _ hg Tryz.underlying148 rfl (by rw [sizeR]; rfl)
  have hp2 : tmps[p]?.getD undef = .pointer (some ⟨b, 0, none⟩) := by simpa using hp
  simp only [results, h]
  simp [hp2, asAddr, hl]
theorem resR2 {fn : Func} {p q : Tmp} (h : fn.results = #[.cell p 148, .tmp q]) (tmps : Array Value) (w : World) (b : Nat) (r : Rec) (s : Spots) (hp : tmps.getD p undef = .pointer (some ⟨b, 0, none⟩)) (hg : RBox w b r s) :
    (results fn tmps).run Tryz.prog w = .ok (.tuple #[.agg (recV r s), tmps.getD q undef]) w := by
  have hl := run_loadVar_row w b 148 148 (recV r s) (0, 0) _ hg Tryz.underlying148 rfl (by rw [sizeR]; rfl)
  have hp2 : tmps[p]?.getD undef = .pointer (some ⟨b, 0, none⟩) := by simpa using hp
  simp only [results, h]
  simp [hp2, asAddr, hl]

end Go.Proofs.YthajipigppndgaaGreat

namespace Go.Proofs.YthajipigppndgaaGreat
open Go.RowKit Go.Maps

end Go.Proofs.YthajipigppndgaaGreat

