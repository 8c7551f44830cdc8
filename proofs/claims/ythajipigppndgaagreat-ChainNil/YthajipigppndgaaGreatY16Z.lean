/-
  slices.Clone of numbers; Trim to the end.
-/
import Derived.Test.YthajipigppndgaaGreatY15Z
namespace Go.Proofs.YthajipigppndgaaGreat
open Go.RowKit Go.Maps

/-- What a log is behind a record that was appended. -/
structure Appd (y y' : Lo) (N : Nat) (r : Rec) : Prop where
  d : y'.d = y.d
  bs : y'.bs = y.bs
  bo : y'.bo = y.bo
  nb : y'.nb = y.nb
  S : y'.S = y.S
  O : y'.O = y.O
  p : y'.p = y.p
  first : y'.first = y.first
  count : y'.count = y.count
  T : y'.T = y.T
  A : y'.A = y.A
  P : y'.P = y.P
  E : y'.E = y.E + N
  F : y'.F = y.F
  lw : y'.lw = y.lw
  lb : y'.lb = y.lb ++ encL { r with lsn := (y.E : Int) + 1, turn := (y.T : Int) }
  ls : y'.ls = y.ls ++ [(y.E : Int) + 1]
  n2 : y'.n2 = y.n2 + 1
theorem lo_append {w : World} {y : Lo} (h : LoAt w y) (r : Rec) (s : Spots) (hs : SpotsAt w r s) (hr : rightB { r with lsn := (y.E : Int) + 1, turn := (y.T : Int) } = true) {N : Nat} (hN : (encL { r with lsn := (y.E : Int) + 1, turn := (y.T : Int) }).length = N) (hroom : (N : Int) ≤ 408 * (y.count - 1) - ((y.E : Int) - (y.A : Int))) (hE : y.E + N ≤ 400000) :
    Calls Tryz.prog 169 #[.pointer (some ⟨y.p, 0, none⟩), .agg (recV r s)] w fun e w' => e = .returned (.tuple #[.int .i64 ((y.E : Int) + 1), .int .i64 0]) ∧ ∃ y', LoAt w' y' ∧ Appd y y' N r ∧ (∀ k ∈ y'.own, k ∈ y.own ∨ w.heap.size ≤ k) ∧ Fr y.own w w' := by
  have n2 := h.dev.n2
  have f0 := h.f0
  have f1 := h.f1
  have hn := h.hn
  have hEE := h.hE
  have hFA := h.hFA
  have hAE := h.hAE
  have h22 := h.h2
  have hbb := body_bounds hr
  have hel := encL_length { r with lsn := (y.E : Int) + 1, turn := (y.T : Int) }
  refine (append_ok2 w y.p y.d (.pointer (some ⟨y.d, 0, none⟩)) y.first y.count (y.T : Int) ((y.A : Int) + 1) ((y.P : Int) + 1) ((y.E : Int) + 1) ((y.F : Int) + 1) y.ad y.a2 y.n y.n2 y.cb y.c2 h.box rfl h.c0 (by omega) (by omega) (by omega) (by omega) y.lb y.ls h.bsA h.lsA (by omega) (by omega) r s hs hr (by rw [hN]; omega)).mono ?_
  rw [hN]
  rintro e w' ⟨rfl, g1, d1, g2, d2, L, B, LS, N1, N2, f⟩
  have hT1 := own0_type h.bsA
  have hT2 := own0_type h.lsA
  have hty : ∀ k ∈ y.p :: ((Value.ownBlock (.slice y.ad y.n y.cb)).toList ++ (Value.ownBlock (.slice y.a2 y.n2 y.c2)).toList), ∃ cur t, w.heap[k]? = some (.cells cur t) ∧ t ≠ 168 := by
    intro k hk
    simp only [List.mem_cons, List.mem_append] at hk
    rcases hk with rfl | hk | hk
    · have h1 := h.box
      unfold LBox at h1
      exact ⟨_, _, h1, by decide⟩
    · obtain ⟨cur, hc⟩ := hT1 k hk
      exact ⟨_, _, hc, by decide⟩
    · obtain ⟨cur, hc⟩ := hT2 k hk
      exact ⟨_, _, hc, by decide⟩
  have hd : y.d ∉ y.p :: ((Value.ownBlock (.slice y.ad y.n y.cb)).toList ++ (Value.ownBlock (.slice y.a2 y.n2 y.c2)).toList) := fun e => by
    obtain ⟨cur, t, hc, ht⟩ := hty _ e
    rw [h.dev.cells] at hc
    cases hc
    exact ht rfl
  have hbs : y.bs ∉ y.p :: ((Value.ownBlock (.slice y.ad y.n y.cb)).toList ++ (Value.ownBlock (.slice y.a2 y.n2 y.c2)).toList) := fun e => by
    obtain ⟨cur, t, hc, ht⟩ := hty _ e
    obtain ⟨D', ⟨es, clock, hb, _⟩, _⟩ := h.dev.safe
    rw [hb] at hc
    cases hc
  have hbo : y.bo ∉ y.p :: ((Value.ownBlock (.slice y.ad y.n y.cb)).toList ++ (Value.ownBlock (.slice y.a2 y.n2 y.c2)).toList) := fun e => by
    obtain ⟨cur, t, hc, ht⟩ := hty _ e
    obtain ⟨D', ⟨es, clock, hb, _⟩, _⟩ := h.dev.opn
    rw [hb] at hc
    cases hc
  refine ⟨rfl, { y with E := y.E + N, n := y.n + N, cb := d1, ad := some ⟨g1, 0, none⟩, n2 := y.n2 + 1, c2 := d2, a2 := some ⟨g2, 0, none⟩, lb := y.lb ++ encL { r with lsn := (y.E : Int) + 1, turn := (y.T : Int) }, ls := y.ls ++ [(y.E : Int) + 1] }, ?_, ⟨rfl, rfl, rfl, rfl, rfl, rfl, rfl, rfl, rfl, rfl, rfl, rfl, rfl, rfl, rfl, rfl, rfl, rfl⟩, ?_, ?_⟩
  · refine { dev := dev_kept h.dev f hd hbs hbo, box := ?_, bsA := B, lsA := LS, lbl := ?_, hn := ?_, hFP := h.hFP, hPE := ?_, hFA := hFA, hAE := ?_, hE := hE, h2 := ?_, hT := h.hT, f0 := h.f0, f1 := h.f1, c0 := h.c0, hlw := h.hlw }
    · show LBox w' y.p ⟨.pointer (some ⟨y.d, 0, none⟩), y.first, y.count, (y.T : Int), (y.A : Int) + 1, (y.P : Int) + 1, ((y.E + N : Nat) : Int) + 1, .slice (some ⟨g1, 0, none⟩) (y.n + N) d1, (y.F : Int) + 1, .slice (some ⟨g2, 0, none⟩) (y.n2 + 1) d2⟩
      have e1 : ((y.E + N : Nat) : Int) + 1 = (y.E : Int) + 1 + (N : Int) := by omega
      rw [e1]
      exact L
    · show (y.lb ++ encL _).length = y.n + N
      rw [List.length_append, h.lbl, hN]
    · show y.F + (y.n + N) = y.E + N
      omega
    · show y.P ≤ y.E + N
      have := h.hPE
      omega
    · show y.A ≤ y.E + N
      omega
    · show y.n2 + 1 ≤ y.E + N
      omega
  · intro k hk
    have hk2 : (k = y.p ∨ k = y.d ∨ k = y.bs ∨ k = y.bo) ∨ k = g1 ∨ k = g2 := by
      simp only [Lo.own, List.mem_append, List.mem_cons, List.not_mem_nil, or_false, Value.ownBlock, Option.toList] at hk
      simpa using hk
    simp only [Lo.own, List.mem_append, List.mem_cons, List.not_mem_nil, or_false]
    rcases hk2 with h1 | rfl | rfl
    · exact Or.inl (Or.inl h1)
    · rcases N1 with h1 | h1
      · exact Or.inl (Or.inr (Or.inl (by rw [h1]; simp)))
      · exact Or.inr h1
    · rcases N2 with h1 | h1
      · exact Or.inl (Or.inr (Or.inr (by rw [h1]; simp)))
      · exact Or.inr h1
  · exact f.mono (fun k _ hk => by
      simp only [Lo.own, List.mem_append, List.mem_cons, List.not_mem_nil, or_false] at hk ⊢
      rcases hk with h1 | h1 | h1
      · exact Or.inl (Or.inl h1)
      · exact Or.inr (Or.inl h1)
      · exact Or.inr (Or.inr h1))
end Go.Proofs.YthajipigppndgaaGreat

namespace Go.Proofs.YthajipigppndgaaGreat
open Go.RowKit Go.Maps

end Go.Proofs.YthajipigppndgaaGreat

namespace Go.Proofs.YthajipigppndgaaGreat
open Go.RowKit Go.Maps

set_option maxHeartbeats 400000 in
theorem nan_any (w : World) (x : Int) : Calls Tryz.prog 274 #[.int .i64 x] w fun e w' => e = .returned (.bool false) ∧ w' = w := by
  have h : (x != x) = false := by simp
  go_enter Tryz.func274, Tryz.ntmps274
  go_wp2
  go_ret
  exact ⟨rfl, rfl⟩
set_option maxHeartbeats 400000 in
theorem snan_any (w : World) (x : Int) : Calls Tryz.prog 250 #[.int .i64 x] w fun e w' => e = .returned (.bool false) ∧ w' = w := by
  have h : (x != x) = false := by simp
  go_enter Tryz.func250, Tryz.ntmps250
  go_wp2
  go_ret
  exact ⟨rfl, rfl⟩
set_option maxHeartbeats 400000 in
theorem less_any (w : World) (x z : Int) : Calls Tryz.prog 249 #[.int .i64 x, .int .i64 z] w fun e w' => e = .returned (.bool (decide (x < z))) ∧ w' = w := by
  go_enter Tryz.func249, Tryz.ntmps249
  go_wp2_with (go_at_call 274; refine (nan_any _ _).mono ?_; rintro e wz ⟨rfl, hz⟩; rw [hz]; clear hz)
  go_ret
  exact ⟨rfl, rfl⟩
/-- Where a number stands in a row: ahead of it a lesser one, at it none that is less. -/
structure BinAt (ls : List Int) (k : Int) (i : Nat) : Prop where
  le : i ≤ ls.length
  lo : ∀ v, 0 < i → ls[i - 1]? = some v → v < k
  hi : ∀ v, ls[i]? = some v → k ≤ v
set_option maxHeartbeats 1000000 in
set_option maxRecDepth 100000 in
theorem bin_any (w : World) (ad : Option Addr) (n c : Nat) (ls : List Int) (k : Int) (hl : ls.length = n) (hn : n ≤ 1000000) (hg : ∀ j v, ls[j]? = some v → ∃ g, ad = some ⟨g, 0, none⟩ ∧ w.cell? ⟨g, j, none⟩ = some (.int .i64 v)) :
    Calls Tryz.prog 190 #[.slice ad n c, .int .i64 k] w fun e w' => ∃ i : Nat, e = .returned (.tuple #[.int .i64 (i : Int), .bool (decide (ls[i]? = some k))]) ∧ w' = w ∧ BinAt ls k i := by
  have HL := hidI hl
  have HG := hidI hg
  clear hl hg
  go_enter Tryz.func190, Tryz.ntmps190
  go_wp2_with fail
  go_loopw [7, 8] (fun s7 s8 wr => ∃ i j : Nat, s7 = .int .i64 (i : Int) ∧ s8 = .int .i64 (j : Int) ∧ wr = w ∧ i ≤ j ∧ j ≤ n ∧ Hid (∀ v, 0 < i → ls[i - 1]? = some v → v < k) ∧ Hid (∀ v, ls[j]? = some v → k ≤ v)) (fun i j _ => (intOf j).toNat - (intOf i).toNat)
  case atStart => exact ⟨0, n, rfl, rfl, rfl, by omega, Nat.le_refl _, hidI (fun _ h => absurd h (by omega)), hidI (fun v h => by rw [List.getElem?_eq_none (by have := HL.out; omega)] at h; cases h)⟩
  case round =>
    obtain ⟨i, j, rfl, rfl, hwr, hij, hjn, hlo, hhi⟩ := hrel
    subst hwr
    by_cases hlt : i < j
    · have q1 : (i : Int) < (j : Int) := by omega
      obtain ⟨v, hv⟩ : ∃ v, ls[(i + j) / 2]? = some v := ⟨_, List.getElem?_eq_getElem (by have := HL.out; omega)⟩
      obtain ⟨g, rfl, hgc⟩ := HG.out ((i + j) / 2) v hv
      have HV := hidI hv
      clear hv
      by_cases hk : v < k
      · have hdt : decide (v < k) = true := decide_eq_true hk
        go_wp2_with (go_at_call 249; refine (less_any _ _ _).mono ?_; rw [hdt]; rintro e wz ⟨rfl, hz⟩; rw [hz]; clear hz)
        refine ⟨⟨(i + j) / 2 + 1, j, by go_num, rfl, trivial, by omega, hjn, hidI (fun v' _ h' => ?_), hhi⟩, ?_⟩
        · have h2 := HV.out
          rw [Nat.add_sub_cancel, h2] at h'
          cases h'
          exact hk
        · simp [intOf]
          omega
      · have hdt : decide (v < k) = false := decide_eq_false hk
        go_wp2_with (go_at_call 249; refine (less_any _ _ _).mono ?_; rw [hdt]; rintro e wz ⟨rfl, hz⟩; rw [hz]; clear hz)
        refine ⟨⟨i, (i + j) / 2, rfl, by go_num, trivial, by omega, by omega, hlo, hidI (fun v' h' => ?_)⟩, ?_⟩
        · have h2 := HV.out
          rw [h2] at h'
          cases h'
          omega
        · simp [intOf]
          omega
    · have q1 : ¬ (i : Int) < (j : Int) := by omega
      have hij2 : i = j := by omega
      subst hij2
      by_cases hin : i < n
      · have q2 : (i : Int) < (n : Int) := by omega
        obtain ⟨v, hv⟩ : ∃ v, ls[i]? = some v := ⟨_, List.getElem?_eq_getElem (by have := HL.out; omega)⟩
        obtain ⟨g, rfl, hgc⟩ := HG.out i v hv
        have HV := hidI hv
        clear hv
        by_cases hk : v = k
        · have q3 : (v == k) = true := beq_iff_eq.2 hk
          have HK := hidI hk
          clear hk
          go_wp2_with fail
          go_ret2
          exact ⟨i, by rw [decide_eq_true (show ls[i]? = some k by rw [HV.out, HK.out])]; rfl, rfl, ⟨by have := HL.out; omega, hlo.out, hhi.out⟩⟩
        · have q3 : (v == k) = false := beq_eq_false_iff_ne.2 hk
          have HK := hidI hk
          clear hk
          go_wp2_with (go_at_call 250; refine (snan_any _ _).mono ?_; rintro e wz ⟨rfl, hz⟩; rw [hz]; clear hz)
          go_ret2
          exact ⟨i, by rw [decide_eq_false (show ¬ ls[i]? = some k by rw [HV.out]; simpa using HK.out)]; rfl, rfl, ⟨by have := HL.out; omega, hlo.out, hhi.out⟩⟩
      · have q2 : ¬ (i : Int) < (n : Int) := by omega
        go_wp2_with fail
        go_ret2
        exact ⟨i, by rw [decide_eq_false (show ¬ ls[i]? = some k by rw [List.getElem?_eq_none (by have := HL.out; omega)]; simp)]; rfl, rfl, ⟨by have := HL.out; omega, hlo.out, hhi.out⟩⟩
end Go.Proofs.YthajipigppndgaaGreat

namespace Go.Proofs.YthajipigppndgaaGreat
open Go.RowKit Go.Maps

section
variable {ops : Array Oper} {rest : List Oper} {o : Oper} {a : Act} {w : World} {Q : Exit → Act → World → Prop}
/-- append of numbers to a row of numbers. -/
theorem wp_appLL (hgd : o.guard = none) (s x : Operand) (ho : o.op = .call { callee := .builtin .append, args := #[s, x], argTypes := #[151, 151] }) (ad : Option Addr) (n c : Nat) (ls : List Int) (g2 o2 m c2 : Nat) (l2 : List Int) (hs : a.eval s = .slice ad n c) (hx : a.eval x = .slice (some ⟨g2, o2, none⟩) m c2)
    (hown : LsAt w ad n c ls) (hl2 : l2.length = m) (hb : ∀ j v, l2[j]? = some v → w.cell? ⟨g2, o2 + j, none⟩ = some (.int .i64 v)) (hm : n + m ≤ 1000000) (hne : ad ≠ none)
    (h : ∀ g c' w', LsAt w' (some ⟨g, 0, none⟩) (n + m) c' (ls ++ l2) → Fr (Value.ownBlock (.slice ad n c)).toList w w' → NewOr ad n c g w.heap.size → wpList Tryz.prog ops Q rest (a.put o.dst (.slice (some ⟨g, 0, none⟩) (n + m) c')) w') : wpList Tryz.prog ops Q (o :: rest) a w :=
  wpList_plain hgd fun K hK => by
    obtain ⟨i, hi, hz, hsz, hbb⟩ := info2'
    obtain ⟨v', w', hrun, h2, h3, h4, h5⟩ := run_append_own_at (P := Tryz.prog) w 0 151 o.type 2 i (.int .i64 0) 1 8 Tryz.underlying151 hi hz hsz hbb rfl (by omega) _ n (lsV ls) hown ⟨g2, o2, none⟩ m c2 (lsV l2) (by simp [lsV, hl2])
      (by
        intro j x hx
        unfold lsV at hx
        rw [List.getElem?_map] at hx
        cases hj : l2[j]? with
        | none => rw [hj] at hx; cases hx
        | some v =>
          rw [hj] at hx
          cases hx
          rw [Addr.add_mid]
          exact hb j v hj) (by intro x hx; unfold lsV at hx; obtain ⟨v, _, rfl⟩ := List.mem_map.1 hx; rfl) (by unfold maxLen; omega) (by omega) (Nat.zero_le _)
    rcases h2.2 with ⟨e, hn0⟩ | ⟨g, c', cur, e, r⟩
    · exfalso
      have h6 := h4.1 e
      cases h6.1
      exact hne rfl
    · subst e
      have h2' : LsAt w' (some ⟨g, 0, none⟩) (n + m) c' (ls ++ l2) := by
        unfold LsAt lsV
        rw [List.map_append]
        exact h2
      unfold Oper.wp execOp
      simp [ho, resolve, invoke, builtin, hs, hx, hrun, Result.andThen]
      exact hK _ _ (h _ _ _ h2' ((Fr.refl _ _).grown h3 (fun j e _ => by simp [e])) (new_of h5))
end
theorem ls_made (w : World) : LsAt (w.alloc (.cells #[] 2)) (some ⟨w.heap.size, 0, none⟩) 0 0 [] := ⟨by simp [lsV], Or.inr ⟨w.heap.size, 0, #[], rfl, Nat.zero_le _, heap_alloc_new w _, Nat.le_refl _, by unfold maxLen; omega, rfl, by simp [lsV]⟩⟩
set_option maxHeartbeats 1000000 in
set_option maxRecDepth 100000 in
theorem lclone_any (w : World) (ad : Option Addr) (m c : Nat) (l2 : List Int) (hl : l2.length = m) (hm : m ≤ 900000) (hn : ad = none → m = 0 ∧ c = 0) (ha : ∀ x, ad = some x → ∃ g o, x = ⟨g, o, none⟩ ∧ ∀ j v, l2[j]? = some v → w.cell? ⟨g, o + j, none⟩ = some (.int .i64 v)) :
    Calls Tryz.prog 191 #[.slice ad m c] w fun e w' => ∃ ad' c', e = .returned (.slice ad' m c') ∧ LsAt w' ad' m c' l2 ∧ (∀ g ∈ (Value.ownBlock (.slice ad' m c')).toList, w.heap.size ≤ g) ∧ Fr [] w w' := by
  cases ad with
  | none =>
    obtain ⟨rfl, rfl⟩ := hn rfl
    have q22 : ∀ w : World, (binOp .eql 151 (.slice none 0 0) (.slice none 0 0)).run Tryz.prog w = .ok (.bool true) w := fun w => Lib.run_eql_slice_nil w _ _ none 0 0 0 0 Tryz.underlying151
    have hl0 : l2 = [] := List.eq_nil_of_length_eq_zero hl
    subst hl0
    go_enter Tryz.func191, Tryz.ntmps191
    go_wp2
    go_ret
    exact ⟨none, 0, rfl, LsAt.nil w, fun g hg => (nomatch hg), Fr.refl _ _⟩
  | some x =>
    obtain ⟨g, o, rfl, hc⟩ := ha x rfl
    have q22 : ∀ w : World, (binOp .eql 151 (.slice (some ⟨g, o, none⟩) m c) (.slice none 0 0)).run Tryz.prog w = .ok (.bool false) w := fun w => Lib.run_eql_slice_nil w _ _ (some ⟨g, o, none⟩) m c 0 0 Tryz.underlying151
    have fa : Fr [] w (w.alloc (.cells #[] 2)) := (Fr.refl [] w).alloc _
    have HC : Hid (∀ j v, l2[j]? = some v → (w.alloc (.cells #[] 2)).cell? ⟨g, o + j, none⟩ = some (.int .i64 v)) := hidI (fun j v hj => by
      have h1 := hc j v hj
      rw [← h1]
      exact World.cell?_of_block (fa.block g (block_lt_of_cell h1) (by simp)))
    have HL := hidI hl
    clear hc hl ha hn
    go_enter Tryz.func191, Tryz.ntmps191
    go_wp2_with (first
      | (refine wp_appLL rfl _ _ rfl (some ⟨w.heap.size, 0, none⟩) 0 0 [] g o m c l2 rfl rfl (ls_made w) HL.out HC.out (by omega) (by simp) ?_; intro g5 c5 w5 l5 f5 n5)
      | go_in)
    go_ret
    rw [List.nil_append, Nat.zero_add] at l5
    refine ⟨some ⟨g5, 0, none⟩, c5, rfl, l5, ?_, fa.then f5 (fun i hi hm => ?_)⟩
    · intro k hk
      simp [Value.ownBlock] at hk
      subst hk
      rcases n5 with h1 | h1
      · simp [Value.ownBlock] at h1
        omega
      · simp at h1
        omega
    · simp [Value.ownBlock] at hm
      omega
/-- What a log is behind Trim. -/
structure Trimd (y y' : Lo) (a : Nat) : Prop where
  d : y'.d = y.d
  bs : y'.bs = y.bs
  bo : y'.bo = y.bo
  nb : y'.nb = y.nb
  S : y'.S = y.S
  O : y'.O = y.O
  p : y'.p = y.p
  first : y'.first = y.first
  count : y'.count = y.count
  T : y'.T = y.T
  A : y'.A = a
  P : y'.P = y.P
  E : y'.E = y.E
  lw : y'.lw = y.lw
  F : y'.F = min a y.P
  lb : y'.lb = y.lb.drop (min a y.P - y.F)
theorem LsAt.src {w : World} {ad : Option Addr} {n c : Nat} {ls : List Int} (h : LsAt w ad n c ls) (hl : ls.length = n) : (ad = none → n = 0 ∧ c = 0) ∧ (∀ x, ad = some x → ∃ g, x = ⟨g, 0, none⟩ ∧ n ≤ c ∧ ∀ j v, ls[j]? = some v → w.cell? ⟨g, j, none⟩ = some (.int .i64 v)) := by
  rcases h.2 with ⟨e, hn⟩ | ⟨g, c', cur, e, hb, hg, hnc, hcm, hcs, ht⟩
  · cases e
    exact ⟨fun _ => ⟨hn, rfl⟩, fun x hx => (nomatch hx)⟩
  · cases e
    refine ⟨fun e => (nomatch e), fun x hx => ?_⟩
    cases hx
    refine ⟨g, rfl, hnc, fun j v hj => ?_⟩
    have hj' : j < ls.length := (List.getElem?_eq_some_iff.1 hj).1
    rw [cell_of_row w g j _ _ _ hg]
    have h1 : (cur.toList.take (n * 1))[j]? = some (Value.int .i64 v) := by
      rw [ht]
      unfold lsV
      rw [List.getElem?_map, hj]
      rfl
    rw [List.getElem?_take, if_pos (by omega)] at h1
    simpa using h1
set_option maxHeartbeats 1000000 in
set_option maxRecDepth 100000 in
theorem lo_trim {w : World} {y : Lo} (h : LoAt w y) (hls : y.ls.length = y.n2) (a : Nat) (h0 : y.A ≤ a) (h1 : a ≤ y.E) (hok : ∀ i, BinAt y.ls ((a : Int) + 1) i → y.ls[i]? = some ((a : Int) + 1) ∨ a = y.E) :
    Calls Tryz.prog 117 #[.pointer (some ⟨y.p, 0, none⟩), .int .i64 ((a : Int) + 1)] w fun e w' => e = .returned (.int .i64 0) ∧ ∃ y' i, LoAt w' y' ∧ Trimd y y' a ∧ BinAt y.ls ((a : Int) + 1) i ∧ y'.ls = y.ls.drop i ∧ y'.n2 = y.n2 - i ∧ (∀ k ∈ y'.own, k ∈ y.own ∨ w.heap.size ≤ k) ∧ Fr [y.p] w w' := by
  have hEE := h.hE
  have h22 := h.h2
  have c0 : w.cell? ⟨y.p, 0, none⟩ = some (.pointer (some ⟨y.d, 0, none⟩)) := h.box.c0
  have c9 : w.cell? ⟨y.p, 9, none⟩ = some (.slice y.a2 y.n2 y.c2) := h.box.c9
  have c6 : w.cell? ⟨y.p, 6, none⟩ = some (.int .i64 ((y.E : Int) + 1)) := h.box.c6
  have c4 : w.cell? ⟨y.p, 4, none⟩ = some (.int .i64 ((y.A : Int) + 1)) := h.box.c4
  have z4 := h.box.fz 4
  have HH := hidI h
  obtain ⟨s1, s2⟩ := h.lsA.src hls
  have HS1 := hidI s1
  have HS2 := hidI s2
  have HOK := hidI hok
  clear h hok s1 s2
  go_enter Tryz.func117, Tryz.ntmps117
  go_wp2_with (go_at_call 99; refine (lmade_yes _ _ _ c0).mono ?_; rintro e w ⟨rfl, rfl⟩)
  refine (bin_any w y.a2 y.n2 y.c2 y.ls ((a : Int) + 1) hls (by omega) (fun j v hj => ?_)).mono ?_
  · cases ha : y.a2 with
    | none =>
      have := (HS1.out ha).1
      have := (List.getElem?_eq_some_iff.1 hj).1
      omega
    | some x =>
      obtain ⟨g, rfl, _, hc⟩ := HS2.out x ha
      exact ⟨g, rfl, hc j v hj⟩
  rintro e w2 ⟨i, rfl, rfl, hbin⟩
  have hile : i ≤ y.n2 := by rw [← hls]; exact hbin.le
  have hx4 := HH.out.box.s4 ((a : Int) + 1)
  have f4 := fr_set w2 y.p 4 (.int .i64 ((a : Int) + 1))
  have hx4' : LBox (w2.setCell ⟨y.p, 4, none⟩ (.int .i64 ((a : Int) + 1))) y.p ⟨.pointer (some ⟨y.d, 0, none⟩), y.first, y.count, (y.T : Int), (a : Int) + 1, (y.P : Int) + 1, (y.E : Int) + 1, .slice y.ad y.n y.cb, (y.F : Int) + 1, .slice y.a2 y.n2 y.c2⟩ := hx4
  have k9 : (w2.setCell ⟨y.p, 4, none⟩ (.int .i64 ((a : Int) + 1))).cell? ⟨y.p, 9, none⟩ = some (.slice y.a2 y.n2 y.c2) := hx4'.c9
  have HX4 := hidI hx4'
  have HB := hidI hbin
  clear hx4 hx4' hbin
  have q0 : (0 : Int) ≤ (i : Int) := by omega
  have q1 : (i : Int) ≤ (y.n2 : Int) := by omega
  have HCL : Hid (∀ (ad' : Option Addr) (m c' : Nat), m = y.n2 - i → (ad' = none → m = 0 ∧ c' = 0) → (∀ x, ad' = some x → ∃ g o, x = ⟨g, o, none⟩ ∧ ∀ j v, (y.ls.drop i)[j]? = some v → (w2.setCell ⟨y.p, 4, none⟩ (.int .i64 ((a : Int) + 1))).cell? ⟨g, o + j, none⟩ = some (.int .i64 v)) → Calls Tryz.prog 191 #[.slice ad' m c'] (w2.setCell ⟨y.p, 4, none⟩ (.int .i64 ((a : Int) + 1))) fun e w' => ∃ a5 c5, e = .returned (.slice a5 m c5) ∧ LsAt w' a5 m c5 (y.ls.drop i) ∧ (∀ g ∈ (Value.ownBlock (.slice a5 m c5)).toList, (w2.setCell ⟨y.p, 4, none⟩ (.int .i64 ((a : Int) + 1))).heap.size ≤ g) ∧ Fr [] (w2.setCell ⟨y.p, 4, none⟩ (.int .i64 ((a : Int) + 1))) w') := hidI (fun ad' m c' hm h3 h4 => lclone_any _ ad' m c' (y.ls.drop i) (by rw [List.length_drop, hls, hm]) (by omega) h3 h4)
  by_cases hdt : y.ls[i]? = some ((a : Int) + 1)
  · rw [decide_eq_true hdt]
    clear hdt
    cases ha : y.a2 with
    | none =>
      obtain ⟨e1, e2⟩ := HS1.out ha
      have hi0 : i = 0 := by omega
      subst hi0
      rw [ha, e1, e2] at k9 c9
      go_wp2_with fail
      all_goals
        refine (HCL.out _ 0 _ (by omega) ?_ ?_).mono ?_
        · exact fun _ => ⟨rfl, rfl⟩
        · exact fun x hx => nomatch hx
        rintro e w5 ⟨a5, c5, rfl, l5, n5, f5⟩
        have hx5 := HX4.out.kept f5 (by simp)
        have z9 := hx5.fz 9
        have k5 : w5.cell? ⟨y.p, 9, none⟩ = some (.slice y.a2 y.n2 y.c2) := hx5.c9
        have hx6 := hx5.s9 (.slice a5 0 c5)
        have f6 := fr_set w5 y.p 9 (.slice a5 0 c5)
        have l6 := own0_kept l5 f6 (lbox_type hx5 2 (by decide))
        have F6 := hidI ((f4.trans (f5.mono (fun _ _ e => nomatch e))).trans f6)
        have B6 := hidI (own0_kept (own0_kept (own0_kept HH.out.bsA f4 (lbox_type HH.out.box 5 (by decide))) f5 (fun g' hg' => nomatch hg')) f6 (lbox_type hx5 5 (by decide)))
        have L6 := hidI l6
        have N5 := hidI n5
        have HX6 := hidI hx6
        rw [ha, e1, e2] at k5
        clear hx5 hx6 l6 l5 n5 f5
        go_wp2_with fail
        refine (letGo_any _ y.p (.pointer (some ⟨y.d, 0, none⟩)) y.first y.count (y.T : Int) a y.P y.E y.F (min a y.P) y.n y.cb y.ad (.slice a5 0 c5) y.lb HX6.out B6.out HH.out.lbl (by have := HH.out.hn; omega) rfl (by have := HH.out.hFA; have := HH.out.hFP; omega) (by have := HH.out.hn; omega) (by omega)).mono ?_
        rintro e w7 ⟨rfl, a7, c7, LB, BB, NW, f7⟩
        go_wp2_with fail
        go_ret
        have hnn := HH.out.ne
        have F67 := (F6.out.trans f7)
        refine ⟨rfl, { y with A := a, F := min a y.P, n := y.n - (min a y.P - y.F), cb := c7, ad := a7, n2 := 0, c2 := c5, a2 := a5, lb := y.lb.drop (min a y.P - y.F), ls := y.ls.drop 0 }, 0, ?_, ⟨rfl, rfl, rfl, rfl, rfl, rfl, rfl, rfl, rfl, rfl, rfl, rfl, rfl, rfl, rfl, rfl⟩, HB.out, rfl, by show 0 = y.n2 - 0; omega, ?_, F67⟩
        · have q := HH.out.hn
          have q2 := HH.out.hFP
          have q3 := HH.out.hFA
          have q4 := HH.out.hPE
          refine { dev := dev_kept HH.out.dev F67 (by simpa using hnn.1.symm) (by simpa using hnn.2.1.symm) (by simpa using hnn.2.2.symm), box := LB, bsA := BB, lsA := own0_kept L6.out f7 (lbox_type HX6.out 2 (by decide)), lbl := ?_, hn := ?_, hFP := ?_, hPE := HH.out.hPE, hFA := ?_, hAE := h1, hE := hEE, h2 := ?_, hT := HH.out.hT, f0 := HH.out.f0, f1 := HH.out.f1, c0 := HH.out.c0, hlw := HH.out.hlw }
          · show (y.lb.drop _).length = _
            rw [List.length_drop, HH.out.lbl]
          · show min a y.P + (y.n - (min a y.P - y.F)) = y.E
            omega
          · show min a y.P ≤ y.P
            omega
          · show min a y.P ≤ a
            omega
          · show 0 ≤ y.E
            omega
        · intro k hk
          have hk2 : (k = y.p ∨ k = y.d ∨ k = y.bs ∨ k = y.bo) ∨ k ∈ (Value.ownBlock (.slice a7 (y.n - (min a y.P - y.F)) c7)).toList ∨ k ∈ (Value.ownBlock (.slice a5 (0) c5)).toList := by
            simp only [Lo.own, List.mem_append, List.mem_cons, List.not_mem_nil, or_false] at hk
            exact hk
          simp only [Lo.own, List.mem_append, List.mem_cons, List.not_mem_nil, or_false]
          rcases hk2 with h3 | h3 | h3
          · exact Or.inl (Or.inl h3)
          · rcases NW k h3 with h4 | h4
            · exact Or.inl (Or.inr (Or.inl h4))
            · exact Or.inr (Nat.le_trans F6.out.size h4)
          · exact Or.inr (Nat.le_trans f4.size (N5.out k h3))
    | some x =>
      obtain ⟨g, rfl, hnc, hc⟩ := HS2.out x ha
      have HC4 : Hid (∀ j v, y.ls[j]? = some v → (w2.setCell ⟨y.p, 4, none⟩ (.int .i64 ((a : Int) + 1))).cell? ⟨g, j, none⟩ = some (.int .i64 v)) := hidI (fun j v hj => by
        have h3 := hc j v hj
        rw [← h3]
        refine World.cell?_of_block (f4.block g (block_lt_of_cell h3) (fun e => ?_))
        simp at e
        obtain ⟨cur, hcu⟩ := own0_type HH.out.lsA g (by rw [ha]; simp [Value.ownBlock])
        have h4 := HH.out.box
        unfold LBox at h4
        rw [← e, hcu] at h4
        cases h4)
      rw [ha] at k9 c9
      have q2 : (i : Int) ≤ (y.c2 : Int) := by omega
      clear hc
      go_wp2_with fail
      all_goals
        refine (HCL.out _ (y.n2 - i) _ (by omega) ?_ ?_).mono ?_
        · exact fun e => nomatch e
        · intro x hx
          cases hx
          first
            | exact ⟨g, i, rfl, fun j v hj => by rw [List.getElem?_drop] at hj; exact HC4.out _ v hj⟩
            | exact ⟨g, 0, rfl, fun j v hj => by rw [List.getElem?_drop] at hj; have := (List.getElem?_eq_some_iff.1 hj).1; omega⟩
        rintro e w5 ⟨a5, c5, rfl, l5, n5, f5⟩
        have hx5 := HX4.out.kept f5 (by simp)
        have z9 := hx5.fz 9
        have k5 : w5.cell? ⟨y.p, 9, none⟩ = some (.slice y.a2 y.n2 y.c2) := hx5.c9
        have hx6 := hx5.s9 (.slice a5 (y.n2 - i) c5)
        have f6 := fr_set w5 y.p 9 (.slice a5 (y.n2 - i) c5)
        have l6 := own0_kept l5 f6 (lbox_type hx5 2 (by decide))
        have F6 := hidI ((f4.trans (f5.mono (fun _ _ e => nomatch e))).trans f6)
        have B6 := hidI (own0_kept (own0_kept (own0_kept HH.out.bsA f4 (lbox_type HH.out.box 5 (by decide))) f5 (fun g' hg' => nomatch hg')) f6 (lbox_type hx5 5 (by decide)))
        have L6 := hidI l6
        have N5 := hidI n5
        have HX6 := hidI hx6
        rw [ha] at k5
        clear hx5 hx6 l6 l5 n5 f5
        go_wp2_with fail
        refine (letGo_any _ y.p (.pointer (some ⟨y.d, 0, none⟩)) y.first y.count (y.T : Int) a y.P y.E y.F (min a y.P) y.n y.cb y.ad (.slice a5 (y.n2 - i) c5) y.lb HX6.out B6.out HH.out.lbl (by have := HH.out.hn; omega) rfl (by have := HH.out.hFA; have := HH.out.hFP; omega) (by have := HH.out.hn; omega) (by omega)).mono ?_
        rintro e w7 ⟨rfl, a7, c7, LB, BB, NW, f7⟩
        go_wp2_with fail
        go_ret
        have hnn := HH.out.ne
        have F67 := (F6.out.trans f7)
        refine ⟨rfl, { y with A := a, F := min a y.P, n := y.n - (min a y.P - y.F), cb := c7, ad := a7, n2 := (y.n2 - i), c2 := c5, a2 := a5, lb := y.lb.drop (min a y.P - y.F), ls := y.ls.drop i }, i, ?_, ⟨rfl, rfl, rfl, rfl, rfl, rfl, rfl, rfl, rfl, rfl, rfl, rfl, rfl, rfl, rfl, rfl⟩, HB.out, rfl, by show (y.n2 - i) = y.n2 - i; omega, ?_, F67⟩
        · have q := HH.out.hn
          have q2 := HH.out.hFP
          have q3 := HH.out.hFA
          have q4 := HH.out.hPE
          refine { dev := dev_kept HH.out.dev F67 (by simpa using hnn.1.symm) (by simpa using hnn.2.1.symm) (by simpa using hnn.2.2.symm), box := LB, bsA := BB, lsA := own0_kept L6.out f7 (lbox_type HX6.out 2 (by decide)), lbl := ?_, hn := ?_, hFP := ?_, hPE := HH.out.hPE, hFA := ?_, hAE := h1, hE := hEE, h2 := ?_, hT := HH.out.hT, f0 := HH.out.f0, f1 := HH.out.f1, c0 := HH.out.c0, hlw := HH.out.hlw }
          · show (y.lb.drop _).length = _
            rw [List.length_drop, HH.out.lbl]
          · show min a y.P + (y.n - (min a y.P - y.F)) = y.E
            omega
          · show min a y.P ≤ y.P
            omega
          · show min a y.P ≤ a
            omega
          · show (y.n2 - i) ≤ y.E
            omega
        · intro k hk
          have hk2 : (k = y.p ∨ k = y.d ∨ k = y.bs ∨ k = y.bo) ∨ k ∈ (Value.ownBlock (.slice a7 (y.n - (min a y.P - y.F)) c7)).toList ∨ k ∈ (Value.ownBlock (.slice a5 ((y.n2 - i)) c5)).toList := by
            simp only [Lo.own, List.mem_append, List.mem_cons, List.not_mem_nil, or_false] at hk
            exact hk
          simp only [Lo.own, List.mem_append, List.mem_cons, List.not_mem_nil, or_false]
          rcases hk2 with h3 | h3 | h3
          · exact Or.inl (Or.inl h3)
          · rcases NW k h3 with h4 | h4
            · exact Or.inl (Or.inr (Or.inl h4))
            · exact Or.inr (Nat.le_trans F6.out.size h4)
          · exact Or.inr (Nat.le_trans f4.size (N5.out k h3))
  · have haE : a = y.E := (HOK.out i HB.out).resolve_left hdt
    rw [decide_eq_false hdt]
    have q7 : ((a : Int) + 1 != (y.E : Int) + 1) = false := by rw [haE]; simp
    clear hdt haE
    cases ha : y.a2 with
    | none =>
      obtain ⟨e1, e2⟩ := HS1.out ha
      have hi0 : i = 0 := by omega
      subst hi0
      rw [ha, e1, e2] at k9 c9
      go_wp2_with fail
      all_goals
        refine (HCL.out _ 0 _ (by omega) ?_ ?_).mono ?_
        · exact fun _ => ⟨rfl, rfl⟩
        · exact fun x hx => nomatch hx
        rintro e w5 ⟨a5, c5, rfl, l5, n5, f5⟩
        have hx5 := HX4.out.kept f5 (by simp)
        have z9 := hx5.fz 9
        have k5 : w5.cell? ⟨y.p, 9, none⟩ = some (.slice y.a2 y.n2 y.c2) := hx5.c9
        have hx6 := hx5.s9 (.slice a5 0 c5)
        have f6 := fr_set w5 y.p 9 (.slice a5 0 c5)
        have l6 := own0_kept l5 f6 (lbox_type hx5 2 (by decide))
        have F6 := hidI ((f4.trans (f5.mono (fun _ _ e => nomatch e))).trans f6)
        have B6 := hidI (own0_kept (own0_kept (own0_kept HH.out.bsA f4 (lbox_type HH.out.box 5 (by decide))) f5 (fun g' hg' => nomatch hg')) f6 (lbox_type hx5 5 (by decide)))
        have L6 := hidI l6
        have N5 := hidI n5
        have HX6 := hidI hx6
        rw [ha, e1, e2] at k5
        clear hx5 hx6 l6 l5 n5 f5
        go_wp2_with fail
        refine (letGo_any _ y.p (.pointer (some ⟨y.d, 0, none⟩)) y.first y.count (y.T : Int) a y.P y.E y.F (min a y.P) y.n y.cb y.ad (.slice a5 0 c5) y.lb HX6.out B6.out HH.out.lbl (by have := HH.out.hn; omega) rfl (by have := HH.out.hFA; have := HH.out.hFP; omega) (by have := HH.out.hn; omega) (by omega)).mono ?_
        rintro e w7 ⟨rfl, a7, c7, LB, BB, NW, f7⟩
        go_wp2_with fail
        go_ret
        have hnn := HH.out.ne
        have F67 := (F6.out.trans f7)
        refine ⟨rfl, { y with A := a, F := min a y.P, n := y.n - (min a y.P - y.F), cb := c7, ad := a7, n2 := 0, c2 := c5, a2 := a5, lb := y.lb.drop (min a y.P - y.F), ls := y.ls.drop 0 }, 0, ?_, ⟨rfl, rfl, rfl, rfl, rfl, rfl, rfl, rfl, rfl, rfl, rfl, rfl, rfl, rfl, rfl, rfl⟩, HB.out, rfl, by show 0 = y.n2 - 0; omega, ?_, F67⟩
        · have q := HH.out.hn
          have q2 := HH.out.hFP
          have q3 := HH.out.hFA
          have q4 := HH.out.hPE
          refine { dev := dev_kept HH.out.dev F67 (by simpa using hnn.1.symm) (by simpa using hnn.2.1.symm) (by simpa using hnn.2.2.symm), box := LB, bsA := BB, lsA := own0_kept L6.out f7 (lbox_type HX6.out 2 (by decide)), lbl := ?_, hn := ?_, hFP := ?_, hPE := HH.out.hPE, hFA := ?_, hAE := h1, hE := hEE, h2 := ?_, hT := HH.out.hT, f0 := HH.out.f0, f1 := HH.out.f1, c0 := HH.out.c0, hlw := HH.out.hlw }
          · show (y.lb.drop _).length = _
            rw [List.length_drop, HH.out.lbl]
          · show min a y.P + (y.n - (min a y.P - y.F)) = y.E
            omega
          · show min a y.P ≤ y.P
            omega
          · show min a y.P ≤ a
            omega
          · show 0 ≤ y.E
            omega
        · intro k hk
          have hk2 : (k = y.p ∨ k = y.d ∨ k = y.bs ∨ k = y.bo) ∨ k ∈ (Value.ownBlock (.slice a7 (y.n - (min a y.P - y.F)) c7)).toList ∨ k ∈ (Value.ownBlock (.slice a5 (0) c5)).toList := by
            simp only [Lo.own, List.mem_append, List.mem_cons, List.not_mem_nil, or_false] at hk
            exact hk
          simp only [Lo.own, List.mem_append, List.mem_cons, List.not_mem_nil, or_false]
          rcases hk2 with h3 | h3 | h3
          · exact Or.inl (Or.inl h3)
          · rcases NW k h3 with h4 | h4
            · exact Or.inl (Or.inr (Or.inl h4))
            · exact Or.inr (Nat.le_trans F6.out.size h4)
          · exact Or.inr (Nat.le_trans f4.size (N5.out k h3))
    | some x =>
      obtain ⟨g, rfl, hnc, hc⟩ := HS2.out x ha
      have HC4 : Hid (∀ j v, y.ls[j]? = some v → (w2.setCell ⟨y.p, 4, none⟩ (.int .i64 ((a : Int) + 1))).cell? ⟨g, j, none⟩ = some (.int .i64 v)) := hidI (fun j v hj => by
        have h3 := hc j v hj
        rw [← h3]
        refine World.cell?_of_block (f4.block g (block_lt_of_cell h3) (fun e => ?_))
        simp at e
        obtain ⟨cur, hcu⟩ := own0_type HH.out.lsA g (by rw [ha]; simp [Value.ownBlock])
        have h4 := HH.out.box
        unfold LBox at h4
        rw [← e, hcu] at h4
        cases h4)
      rw [ha] at k9 c9
      have q2 : (i : Int) ≤ (y.c2 : Int) := by omega
      clear hc
      go_wp2_with fail
      all_goals
        refine (HCL.out _ (y.n2 - i) _ (by omega) ?_ ?_).mono ?_
        · exact fun e => nomatch e
        · intro x hx
          cases hx
          first
            | exact ⟨g, i, rfl, fun j v hj => by rw [List.getElem?_drop] at hj; exact HC4.out _ v hj⟩
            | exact ⟨g, 0, rfl, fun j v hj => by rw [List.getElem?_drop] at hj; have := (List.getElem?_eq_some_iff.1 hj).1; omega⟩
        rintro e w5 ⟨a5, c5, rfl, l5, n5, f5⟩
        have hx5 := HX4.out.kept f5 (by simp)
        have z9 := hx5.fz 9
        have k5 : w5.cell? ⟨y.p, 9, none⟩ = some (.slice y.a2 y.n2 y.c2) := hx5.c9
        have hx6 := hx5.s9 (.slice a5 (y.n2 - i) c5)
        have f6 := fr_set w5 y.p 9 (.slice a5 (y.n2 - i) c5)
        have l6 := own0_kept l5 f6 (lbox_type hx5 2 (by decide))
        have F6 := hidI ((f4.trans (f5.mono (fun _ _ e => nomatch e))).trans f6)
        have B6 := hidI (own0_kept (own0_kept (own0_kept HH.out.bsA f4 (lbox_type HH.out.box 5 (by decide))) f5 (fun g' hg' => nomatch hg')) f6 (lbox_type hx5 5 (by decide)))
        have L6 := hidI l6
        have N5 := hidI n5
        have HX6 := hidI hx6
        rw [ha] at k5
        clear hx5 hx6 l6 l5 n5 f5
        go_wp2_with fail
        refine (letGo_any _ y.p (.pointer (some ⟨y.d, 0, none⟩)) y.first y.count (y.T : Int) a y.P y.E y.F (min a y.P) y.n y.cb y.ad (.slice a5 (y.n2 - i) c5) y.lb HX6.out B6.out HH.out.lbl (by have := HH.out.hn; omega) rfl (by have := HH.out.hFA; have := HH.out.hFP; omega) (by have := HH.out.hn; omega) (by omega)).mono ?_
        rintro e w7 ⟨rfl, a7, c7, LB, BB, NW, f7⟩
        go_wp2_with fail
        go_ret
        have hnn := HH.out.ne
        have F67 := (F6.out.trans f7)
        refine ⟨rfl, { y with A := a, F := min a y.P, n := y.n - (min a y.P - y.F), cb := c7, ad := a7, n2 := (y.n2 - i), c2 := c5, a2 := a5, lb := y.lb.drop (min a y.P - y.F), ls := y.ls.drop i }, i, ?_, ⟨rfl, rfl, rfl, rfl, rfl, rfl, rfl, rfl, rfl, rfl, rfl, rfl, rfl, rfl, rfl, rfl⟩, HB.out, rfl, by show (y.n2 - i) = y.n2 - i; omega, ?_, F67⟩
        · have q := HH.out.hn
          have q2 := HH.out.hFP
          have q3 := HH.out.hFA
          have q4 := HH.out.hPE
          refine { dev := dev_kept HH.out.dev F67 (by simpa using hnn.1.symm) (by simpa using hnn.2.1.symm) (by simpa using hnn.2.2.symm), box := LB, bsA := BB, lsA := own0_kept L6.out f7 (lbox_type HX6.out 2 (by decide)), lbl := ?_, hn := ?_, hFP := ?_, hPE := HH.out.hPE, hFA := ?_, hAE := h1, hE := hEE, h2 := ?_, hT := HH.out.hT, f0 := HH.out.f0, f1 := HH.out.f1, c0 := HH.out.c0, hlw := HH.out.hlw }
          · show (y.lb.drop _).length = _
            rw [List.length_drop, HH.out.lbl]
          · show min a y.P + (y.n - (min a y.P - y.F)) = y.E
            omega
          · show min a y.P ≤ y.P
            omega
          · show min a y.P ≤ a
            omega
          · show (y.n2 - i) ≤ y.E
            omega
        · intro k hk
          have hk2 : (k = y.p ∨ k = y.d ∨ k = y.bs ∨ k = y.bo) ∨ k ∈ (Value.ownBlock (.slice a7 (y.n - (min a y.P - y.F)) c7)).toList ∨ k ∈ (Value.ownBlock (.slice a5 ((y.n2 - i)) c5)).toList := by
            simp only [Lo.own, List.mem_append, List.mem_cons, List.not_mem_nil, or_false] at hk
            exact hk
          simp only [Lo.own, List.mem_append, List.mem_cons, List.not_mem_nil, or_false]
          rcases hk2 with h3 | h3 | h3
          · exact Or.inl (Or.inl h3)
          · rcases NW k h3 with h4 | h4
            · exact Or.inl (Or.inr (Or.inl h4))
            · exact Or.inr (Nat.le_trans F6.out.size h4)
          · exact Or.inr (Nat.le_trans f4.size (N5.out k h3))
end Go.Proofs.YthajipigppndgaaGreat

