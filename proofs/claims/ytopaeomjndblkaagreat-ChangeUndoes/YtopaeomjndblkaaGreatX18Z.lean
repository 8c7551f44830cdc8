/-
  A page's spans, logged and done, one behind the other: what holds between.
-/
import Derived.Test.YtopaeomjndblkaaGreatX17Z
import Derived.Test.YtopaeomjndblkaaGreatX16Z
import Derived.Test.YtopaeomjndblkaaGreatX11Z
import Derived.Test.YtopaeomjndblkaaGreatX13Z
namespace Go.Proofs.YtopaeomjndblkaaGreat.Pg

theorem rises_pair {a b : List UInt8} : ∀ {D : List (Nat × Nat)} {m : Nat}, Rises a b m D → (∀ k (hk : k < D.length), m ≤ (D[k]'hk).1 ∧ (D[k]'hk).1 < (D[k]'hk).2 ∧ byteAt a (D[k]'hk).1 ≠ byteAt b (D[k]'hk).1 ∧ byteAt a ((D[k]'hk).2 - 1) ≠ byteAt b ((D[k]'hk).2 - 1)) ∧ (∀ k l (hl : l < D.length) (hkl : k < l), (D[k]'(by omega)).2 + 8 ≤ (D[l]'hl).1)
  | [], _, _ => ⟨fun k hk => absurd hk (by simp), fun k l hl => absurd hl (by simp)⟩
  | (f, t) :: r, m, h => by
    obtain ⟨h1, h2, h3, h4, h5⟩ := h
    obtain ⟨p1, p2⟩ := rises_pair h5
    refine ⟨fun k hk => ?_, fun k l hl hkl => ?_⟩
    · cases k with
      | zero => exact ⟨h1, h2, h3, h4⟩
      | succ k =>
        have := p1 k (by simpa using hk)
        exact ⟨by have := this.1; simp only [List.getElem_cons_succ]; omega, this.2⟩
    · cases l with
      | zero => omega
      | succ l =>
        cases k with
        | zero => exact (p1 l (by simpa using hl)).1
        | succ k => exact p2 k l (by simpa using hl) (by omega)

/-- The end of the last of the first i spans. -/
def lastE (D : List (Nat × Nat)) (i : Nat) : Nat := if i = 0 then 0 else (D.getD (i - 1) (0, 0)).2

theorem diff_ends (a b : List UInt8) : ∀ x ∈ diffS a b, x.2 ≤ 512 := by
  intro x hx
  have ok := dwalk_ok a b 512
  unfold diffS at hx
  generalize dwalk a b 512 = s at ok hx
  unfold spansOf at hx
  have h1 := ok.le
  by_cases ht : s.2.2 = 0
  · rw [if_pos ht, (ok.none ht).1] at hx
    cases hx
  · rw [if_neg ht] at hx
    have h2 := ok.cur ht
    rcases List.mem_append.1 hx with h | h
    · have := h2.2.2.2 x h
      omega
    · have : x = (s.2.1, s.2.2) := by simpa using h
      subst this
      exact h1
theorem diff_rises (a b : List UInt8) : Rises a b 0 (diffS a b) := by
  have ok := dwalk_ok a b 512
  unfold diffS
  generalize dwalk a b 512 = s at ok
  unfold spansOf
  by_cases ht : s.2.2 = 0
  · rw [if_pos ht]
    exact ok.rises
  · rw [if_neg ht]
    obtain ⟨c1, c2, c3, c4⟩ := ok.cur ht
    exact ok.rises.snoc c4 (by omega) c1 c2 c3

structure TOk (a b : List UInt8) (L f t : Nat) : Prop where
  lt : f < t
  le : t ≤ 512
  ne0 : byteAt a f ≠ byteAt b f
  ne1 : byteAt a (t - 1) ≠ byteAt b (t - 1)
  gap : L = 0 ∨ L + 8 ≤ f
  same : ∀ j, L ≤ j → j < f → byteAt a j = byteAt b j

theorem lastE_zero (D : List (Nat × Nat)) : lastE D 0 = 0 := rfl
theorem lastE_succ (D : List (Nat × Nat)) (i : Nat) (h : i < D.length) : lastE D (i + 1) = (D[i]'h).2 := by
  unfold lastE
  rw [if_neg (by omega), Nat.add_sub_cancel, List.getD_eq_getElem?_getD, List.getElem?_eq_getElem h]
  rfl
theorem diff_same (a b : List UInt8) (i : Nat) (hi : i ≤ (diffS a b).length) (j : Nat) (hj : j < 512) (h1 : lastE (diffS a b) i ≤ j) (h2 : ∀ (h : i < (diffS a b).length), j < ((diffS a b)[i]'h).1) : byteAt a j = byteAt b j := by
  have ok := dwalk_ok a b 512
  obtain ⟨p1, p2⟩ := rises_pair (diff_rises a b)
  refine ok.out j hj (fun x hx hc => ?_)
  have hx' : x ∈ diffS a b := hx
  obtain ⟨k, hk, rfl⟩ := List.mem_iff_getElem.1 hx'
  have q := (p1 k hk).2.1
  by_cases hki : k < i
  · obtain ⟨i', rfl⟩ : ∃ i', i = i' + 1 := ⟨i - 1, by omega⟩
    rw [lastE_succ _ _ (by omega)] at h1
    by_cases hk2 : k = i'
    · subst hk2
      omega
    · have := p2 k i' (by omega) (by omega)
      have := (p1 i' (by omega)).2.1
      omega
  · have h3 := h2 (by omega)
    by_cases hk2 : k = i
    · subst hk2
      omega
    · have := p2 i k hk (by omega)
      have := (p1 i (by omega)).2.1
      omega
theorem diff_tok (a b : List UInt8) (i : Nat) (hi : i < (diffS a b).length) : TOk a b (lastE (diffS a b) i) ((diffS a b)[i]'hi).1 ((diffS a b)[i]'hi).2 := by
  obtain ⟨p1, p2⟩ := rises_pair (diff_rises a b)
  obtain ⟨q0, q1, q2, q3⟩ := p1 i hi
  have hle := diff_ends a b _ (List.getElem_mem hi)
  refine ⟨q1, hle, q2, q3, ?_, fun j h1 h2 => diff_same a b i (by omega) j (by omega) h1 (fun _ => h2)⟩
  by_cases h0 : i = 0
  · subst h0
    exact Or.inl rfl
  · obtain ⟨i', rfl⟩ : ∃ i', i = i' + 1 := ⟨i - 1, by omega⟩
    rw [lastE_succ _ _ (by omega)]
    exact Or.inr (p2 i' (i' + 1) hi (by omega))

/-- The first L bytes of one page, the rest of another. -/
def mixL (a b : List UInt8) (L : Nat) : List UInt8 := b.take L ++ a.drop L
theorem mixL_length (a b : List UInt8) (L : Nat) (ha : a.length = 512) (hb : b.length = 512) (hL : L ≤ 512) : (mixL a b L).length = 512 := by
  unfold mixL
  rw [List.length_append, List.length_take, List.length_drop]
  omega
theorem mixL_zero (a b : List UInt8) : mixL a b 0 = a := by simp [mixL]
theorem mixL_get (a b : List UInt8) (L j : Nat) (hb : L ≤ b.length) : (mixL a b L)[j]? = if j < L then b[j]? else a[j]? := by
  unfold mixL
  by_cases h : j < L
  · rw [if_pos h, List.getElem?_append_left (by rw [List.length_take]; omega), List.getElem?_take, if_pos h]
  · rw [if_neg h, List.getElem?_append_right (by rw [List.length_take]; omega), List.length_take, List.getElem?_drop]
    congr 1
    omega
theorem mixL_all (a b : List UInt8) (L : Nat) (ha : a.length = 512) (hb : b.length = 512) (hL : L ≤ 512) (h : ∀ j, L ≤ j → j < 512 → byteAt a j = byteAt b j) : mixL a b L = b := by
  apply List.ext_getElem?
  intro j
  rw [mixL_get _ _ _ _ (by omega)]
  by_cases hj : j < L
  · rw [if_pos hj]
  · rw [if_neg hj]
    by_cases hj2 : j < 512
    · have := h j (by omega) hj2
      rw [List.getElem?_eq_getElem (by omega), List.getElem?_eq_getElem (by omega)]
      congr 1
      have e1 : byteAt a j = a[j]'(by omega) := by simp [byteAt, ha, hj2]
      have e2 : byteAt b j = b[j]'(by omega) := by simp [byteAt, hb, hj2]
      rw [← e1, ← e2]
      exact this
    · rw [List.getElem?_eq_none (by omega), List.getElem?_eq_none (by omega)]
theorem mixL_step (a b : List UInt8) (L f t : Nat) (ha : a.length = 512) (hb : b.length = 512) (hL : L ≤ f) (ok : TOk a b L f t) : over (mixL a b L) f ((b.drop f).take (t - f)) = mixL a b t := by
  have k1 := ok.lt
  have k2 := ok.le
  have hf : mixL a b L = mixL a b f := by
    apply List.ext_getElem?
    intro j
    rw [mixL_get _ _ _ _ (by omega), mixL_get _ _ _ _ (by omega)]
    by_cases h1 : j < L
    · rw [if_pos h1, if_pos (by omega)]
    · rw [if_neg h1]
      by_cases h2 : j < f
      · rw [if_pos h2]
        have := ok.same j (by omega) h2
        rw [List.getElem?_eq_getElem (by omega), List.getElem?_eq_getElem (by omega)]
        congr 1
        have e1 : byteAt a j = a[j]'(by omega) := by simp [byteAt, ha, show j < 512 by omega]
        have e2 : byteAt b j = b[j]'(by omega) := by simp [byteAt, hb, show j < 512 by omega]
        rw [← e1, ← e2]
        exact this
      · rw [if_neg h2]
  rw [hf]
  unfold mixL
  rw [over_at _ _ _ _ (by rw [List.length_take]; omega), List.length_take, List.length_drop, List.drop_drop, ← List.append_assoc]
  rw [show min (t - f) (b.length - f) = t - f by omega, show f + (t - f) = t by omega]
  congr 1
  rw [show t = f + (t - f) by omega, List.take_add]
  congr 2
  omega
theorem TOk.symm {a b : List UInt8} {L f t : Nat} (h : TOk a b L f t) : TOk b a L f t := ⟨h.lt, h.le, fun e => h.ne0 e.symm, fun e => h.ne1 e.symm, h.gap, fun j h1 h2 => (h.same j h1 h2).symm⟩
end Go.Proofs.YtopaeomjndblkaaGreat.Pg

namespace Go.Proofs.YtopaeomjndblkaaGreat
open Go.RowKit Go.Maps
open Pg (SpE diffS)

theorem fr_pg {L : List Nat} {a b : World} (h : Pg.Fr L a b) : Fr L a b := ⟨h.os, h.tape, h.output, h.size, h.block⟩
theorem pg_fr {L : List Nat} {a b : World} (h : Fr L a b) : Pg.Fr L a b := ⟨h.os, h.tape, h.output, h.size, h.block⟩
/-- A row of spans: where each is, its two lists; the first k of them have their page. -/
def SpRow (w : World) (g k : Nat) (pg : Int) (S : List SpE) : Prop := ∃ cur : Array Value, w.heap[g]? = some (.cells cur 42) ∧ ∀ i e, S[i]? = some e → cur[i * 4]? = some (.int .i64 (if i < k then pg else 0)) ∧ cur[i * 4 + 1]? = some (.int .i64 (e.off : Int)) ∧ cur[i * 4 + 2]? = some (.slice (some ⟨e.bo, 0, none⟩) e.n e.n) ∧ cur[i * 4 + 3]? = some (.slice (some ⟨e.bn, 0, none⟩) e.n e.n)
theorem SpRow.kept {w w' : World} {g k : Nat} {pg : Int} {S : List SpE} {L : List Nat} (h : SpRow w g k pg S) (f : Fr L w w') (hg : g ∉ L) : SpRow w' g k pg S := by
  obtain ⟨cur, h1, h2⟩ := h
  exact ⟨cur, f.same hg h1, h2⟩
theorem SpRow.cells {w : World} {g k : Nat} {pg : Int} {S : List SpE} (h : SpRow w g k pg S) {i : Nat} {e : SpE} (hi : S[i]? = some e) : w.cell? ⟨g, i * 4, none⟩ = some (.int .i64 (if i < k then pg else 0)) ∧ w.cell? ⟨g, i * 4 + 1, none⟩ = some (.int .i64 (e.off : Int)) ∧ w.cell? ⟨g, i * 4 + 2, none⟩ = some (.slice (some ⟨e.bo, 0, none⟩) e.n e.n) ∧ w.cell? ⟨g, i * 4 + 3, none⟩ = some (.slice (some ⟨e.bn, 0, none⟩) e.n e.n) := by
  obtain ⟨cur, h1, h2⟩ := h
  obtain ⟨a, b, c, d⟩ := h2 i e hi
  exact ⟨by rw [cell_of_row w g _ _ _ _ h1]; exact a, by rw [cell_of_row w g _ _ _ _ h1]; exact b, by rw [cell_of_row w g _ _ _ _ h1]; exact c, by rw [cell_of_row w g _ _ _ _ h1]; exact d⟩
theorem SpRow.set {w : World} {g k : Nat} {pg : Int} {S : List SpE} (h : SpRow w g k pg S) : SpRow (w.setCell ⟨g, k * 4, none⟩ (.int .i64 pg)) g (k + 1) pg S := by
  obtain ⟨cur, h1, h2⟩ := h
  refine ⟨cur.setIfInBounds (k * 4) (.int .i64 pg), heap_setCell_same w g (k * 4) _ _ _ h1, fun i e hi => ?_⟩
  obtain ⟨a, b, c, d⟩ := h2 i e hi
  refine ⟨?_, ?_, ?_, ?_⟩
  · by_cases e1 : i = k
    · subst e1
      rw [if_pos (by omega)]
      have hl : i * 4 < cur.size := (Array.getElem?_eq_some_iff.1 a).1
      rw [Array.getElem?_setIfInBounds_self_of_lt hl]
    · rw [Array.getElem?_setIfInBounds_ne (by omega), a]
      by_cases e2 : i < k
      · rw [if_pos e2, if_pos (by omega)]
      · rw [if_neg e2, if_neg (by omega)]
  · rw [Array.getElem?_setIfInBounds_ne (by omega)]
    exact b
  · rw [Array.getElem?_setIfInBounds_ne (by omega)]
    exact c
  · rw [Array.getElem?_setIfInBounds_ne (by omega)]
    exact d
theorem diff_few (a b : List UInt8) : (diffS a b).length ≤ 57 := by
  have ok := Pg.dwalk_ok a b 512
  unfold diffS Pg.spansOf
  generalize Pg.dwalk a b 512 = s at ok
  by_cases ht : s.2.2 = 0
  · rw [if_pos ht, (ok.none ht).1]
    simp
  · rw [if_neg ht, List.length_append]
    have h1 := (ok.cur ht).1
    have h2 := ok.le
    have h3 := ok.few
    simp
    omega
/-- The spans at which a page differs from bytes, in memory. -/
structure Spans (w0 w : World) (la lb : List UInt8) (pg : Int) (AD : Option Addr) (N CAP : Nat) (S : List SpE) : Prop where
  eq : S.map (fun e => (e.off, e.off + e.n)) = diffS la lb
  len : S.length = N
  few : N ≤ 57
  cap : N ≤ CAP
  row : N = 0 ∨ ∃ g, AD = some ⟨g, 0, none⟩ ∧ w0.heap.size ≤ g ∧ SpRow w g N pg S
  blk : ∀ e ∈ S, Blk w e.bo ((la.drop e.off).take e.n) ∧ Blk w e.bn ((lb.drop e.off).take e.n)
  new : ∀ e ∈ S, w0.heap.size ≤ e.bo ∧ w0.heap.size ≤ e.bn
set_option maxHeartbeats 1000000 in
set_option maxRecDepth 100000 in
theorem differing_any (w : World) (page : Nat) (g1 o1 c1 g2 o2 c2 : Nat) (la lb : List UInt8) (h1 : Pg.At512 w g1 o1 c1 la) (h2 : Pg.At512 w g2 o2 c2 lb) :
    Calls Tryz.prog 97 #[.int .i64 (page : Int), .slice (some ⟨g1, o1, none⟩) 512 c1, .slice (some ⟨g2, o2, none⟩) 512 c2] w fun e w' => ∃ AD N CAP, e = .returned (.slice AD N CAP) ∧ (∃ S, Spans w w' la lb (page : Int) AD N CAP S) ∧ Fr [] w w' := by
  go_enter Tryz.func97, Tryz.ntmps97
  go_wp2_with fail
  refine (Pg.diff_512r w g1 o1 c1 g2 o2 c2 la lb h1 h2).mono ?_
  rintro e w1 ⟨AD, N, CAP, S, rfl, hS, own, hb, f1', hri⟩
  have f1 := fr_pg f1'
  have hlen : S.length = N := by
    have := own.1
    rw [Pg.spv_length] at this
    omega
  have hnew : ∀ e ∈ S, w.heap.size ≤ e.bo ∧ w.heap.size ≤ e.bn := fun e he => ⟨(hri.2 e.bo (List.mem_flatMap.2 ⟨e, he, by simp⟩)).1, (hri.2 e.bn (List.mem_flatMap.2 ⟨e, he, by simp⟩)).1⟩
  have hN57 : N ≤ 57 := by
    have h3 := diff_few la lb
    rw [← hS, List.length_map] at h3
    omega
  have HB := hidI hb
  have HS := hidI hS
  have HL := hidI hlen
  have HNW := hidI hnew
  clear hS hb f1' hri hlen hnew
  rcases own.2 with ⟨ev, hn0⟩ | ⟨g, cap, cur, ev, hbase, hg, hnc, hcm, hcs, ht⟩
  · cases ev
    clear own hn0
    go_wp2_with fail
    go_loopw [14] (fun s14 wr => s14 = .int .i64 0 ∧ wr = w1) (fun _ _ => 0)
    case atStart => exact ⟨rfl, rfl⟩
    case round =>
      obtain ⟨rfl, hwr⟩ := hrel
      subst hwr
      go_wp2_with fail
      go_ret
      exact ⟨none, 0, 0, rfl, ⟨S, HS.out, HL.out, hN57, Nat.le_refl _, Or.inl rfl, HB.out, HNW.out⟩, f1⟩
  · cases ev
    have row0 : SpRow w1 g 0 (page : Int) S := by
      refine ⟨cur, hg, fun i e hi => ?_⟩
      have hil := (List.getElem?_eq_some_iff.1 hi).1
      have hie : S[i] = e := (List.getElem?_eq_some_iff.1 hi).2
      have key : ∀ c, c < 4 → cur[i * 4 + c]? = e.vals[c]? := by
        intro c hc
        have h1 := Pg.spv_at S i hil c hc
        rw [hie, ← ht, List.getElem?_take, if_pos (by have := HL.out; omega)] at h1
        simpa using h1
      exact ⟨by rw [if_neg (by omega)]; exact key 0 (by omega), key 1 (by omega), key 2 (by omega), key 3 (by omega)⟩
    have HBK : Hid (∀ wr, Fr [g] w1 wr → ∀ e ∈ S, Blk wr e.bo ((la.drop e.off).take e.n) ∧ Blk wr e.bn ((lb.drop e.off).take e.n)) := hidI (fun wr f e he => by
      have hx := HB.out e he
      have key : ∀ b (l : List UInt8), Pg.Blk w1 b l → Blk wr b l := fun b l hbl => by
        have hne : b ≠ g := fun e => by
          subst e
          have h3 : w1.heap[b]? = some (.cells (arr l) 5) := hbl
          rw [hg] at h3
          cases h3
        exact f.same (by simpa using hne) hbl
      exact ⟨key _ _ hx.1, key _ _ hx.2⟩)
    have HG := hidI hg
    clear own hg ht hcs hcm
    go_wp2_with fail
    go_loopw [14] (fun s14 wr => ∃ k : Nat, s14 = .int .i64 (k : Int) ∧ k ≤ N ∧ Hid (SpRow wr g k (page : Int) S) ∧ Fr [g] w1 wr) (fun i _ => N - (intOf i).toNat)
    case atStart => exact ⟨0, rfl, by omega, hidI row0, Fr.refl _ _⟩
    case round =>
      obtain ⟨k, rfl, hk, HR, FR⟩ := hrel
      by_cases hlt : k < N
      · have q1 : (k : Int) < (N : Int) := by omega
        have q0 : (0 : Int) ≤ (k : Int) := by omega
        obtain ⟨e, he⟩ : ∃ e, S[k]? = some e := ⟨_, List.getElem?_eq_getElem (by have := HL.out; omega)⟩
        obtain ⟨k0, _, _, _⟩ := HR.out.cells he
        have z0 : wr.frozen? ⟨g, k * 4, none⟩ = false := by
          obtain ⟨cur', hc', _⟩ := HR.out
          exact frozen_of_row wr g _ _ _ hc'
        clear he
        have R2 := HR.out.set
        have F2 := FR.setCell ⟨g, k * 4, none⟩ (.int .i64 (page : Int)) (fun _ => by simp)
        go_wp2_with fail
        refine ⟨⟨k + 1, by go_num, by omega, hidI R2, F2⟩, ?_⟩
        simp [intOf]
        omega
      · have q1 : ¬ (k : Int) < (N : Int) := by omega
        obtain rfl : k = N := by omega
        go_wp2_with fail
        go_ret
        exact ⟨_, _, _, rfl, ⟨S, HS.out, HL.out, hN57, hnc, Or.inr ⟨g, rfl, hbase, HR.out⟩, HBK.out _ FR, HNW.out⟩, f1.then FR (fun i hi e => by simp at e; omega)⟩
/-- How many bytes of log spans want: their records, and those of their undoing. -/
def sumN : List SpE → Int
  | [] => 0
  | e :: S => 94 + 3 * (e.n : Int) + sumN S
theorem sumN_app (S T : List SpE) : sumN (S ++ T) = sumN S + sumN T := by
  induction S with
  | nil => simp [sumN]
  | cons e S ih => simp [sumN, ih]; omega
theorem sumN_bound : ∀ (S : List SpE), (∀ e ∈ S, e.n ≤ 512) → 0 ≤ sumN S ∧ sumN S ≤ 2000 * (S.length : Int)
  | [], _ => by simp [sumN]
  | e :: S, h => by
    have h1 := sumN_bound S (fun x hx => h x (List.mem_cons_of_mem _ hx))
    have h2 := h e List.mem_cons_self
    simp only [sumN, List.length_cons]
    omega
theorem undoing_any (w : World) (p q : Int) (a1 a2 : Option Addr) (n1 c1 n2 c2 : Nat) (h : n2 ≤ 1000000) : Calls Tryz.prog 196 #[.agg #[.int .i64 p, .int .i64 q, .slice a1 n1 c1, .slice a2 n2 c2]] w fun e w' => e = .returned (.int .i64 (51 + (n2 : Int))) ∧ Fr [] w w' := by
  have e1 : IntKind.i64.wrap (51 + (n2 : Int)) = 51 + (n2 : Int) := wrapI _ (by omega) (by omega)
  go_enter Tryz.func196, Tryz.ntmps196
  go_wp2
  go_ret
  exact ⟨by go_num, (Fr.refl [] w).alloc _⟩
set_option maxHeartbeats 2000000 in
set_option maxRecDepth 100000 in
theorem needs_any {w : World} {dp : Nat} {t : Dl} (hd : DlAt w dp t) (hk0 : 0 ≤ t.kept) (hk1 : t.kept ≤ 1000000) {w0 : World} {la lb : List UInt8} {pg : Int} {AD : Option Addr} {N CAP : Nat} {S : List SpE} (hS : Spans w0 w la lb pg AD N CAP S) (hn : ∀ e ∈ S, e.n ≤ 512) :
    Calls Tryz.prog 98 #[.pointer (some ⟨dp, 0, none⟩), .slice AD N CAP] w fun e w' => e = .returned (.int .i64 (t.kept + 35 + sumN S)) ∧ Fr [] w w' := by
  have d6 := hd.c6
  have HS := hidI hS
  have HN := hidI hn
  have hN := hS.few
  clear hS hn hd
  go_enter Tryz.func98, Tryz.ntmps98
  go_wp2_with fail
  go_loopw [5, 15] (fun s5 s15 wr => ∃ k : Nat, ∃ M : Int, s5 = .int .i64 M ∧ M = t.kept + 35 + sumN (S.take k) ∧ s15 = .int .i64 (k : Int) ∧ k ≤ N ∧ Fr [] w wr) (fun _ i _ => N - (intOf i).toNat)
  case atStart => exact ⟨0, t.kept + 35, by go_num, by simp [sumN], rfl, by omega, Fr.refl _ _⟩
  case round =>
    obtain ⟨k, M, rfl, hM, rfl, hk, FR⟩ := hrel
    have HM := hidI hM
    have hM0 : 0 ≤ M ∧ M ≤ 1200000 := by
      have h1 := sumN_bound (S.take k) (fun e he => HN.out e (List.mem_of_mem_take he))
      have h2 : (S.take k).length ≤ 57 := by rw [List.length_take, HS.out.len]; omega
      rw [hM]
      omega
    clear hM
    by_cases hlt : k < N
    · have q1 : (k : Int) < (N : Int) := by omega
      have q0 : (0 : Int) ≤ (k : Int) := by omega
      obtain ⟨e, he⟩ : ∃ e, S[k]? = some e := ⟨_, List.getElem?_eq_getElem (by have := HS.out.len; omega)⟩
      obtain ⟨g, hAD, hg0, hrow⟩ : ∃ g, AD = some ⟨g, 0, none⟩ ∧ w0.heap.size ≤ g ∧ SpRow w g N pg S := HS.out.row.resolve_left (by omega)
      subst hAD
      obtain ⟨k0, k1, k2, k3⟩ := (hrow.kept FR (by simp)).cells he
      rw [if_pos hlt] at k0
      have hen : e.n ≤ 512 := HN.out e (List.mem_of_getElem? he)
      have HE := hidI he
      clear he hrow
      have fa : Fr [] wr (wr.alloc (.cells #[.int .i64 pg, .int .i64 (e.off : Int), .slice (some ⟨e.bo, 0, none⟩) e.n e.n, .slice (some ⟨e.bn, 0, none⟩) e.n e.n] 42)) := (Fr.refl [] wr).alloc _
      have ha := heap_alloc_new wr (.cells #[.int .i64 pg, .int .i64 (e.off : Int), .slice (some ⟨e.bo, 0, none⟩) e.n e.n, .slice (some ⟨e.bn, 0, none⟩) e.n e.n] 42)
      go_wp2_with fail
      generalize (wr.alloc (.cells #[.int .i64 pg, .int .i64 (e.off : Int), .slice (some ⟨e.bo, 0, none⟩) e.n e.n, .slice (some ⟨e.bn, 0, none⟩) e.n e.n] 42)) = w5 at fa ha ⊢
      obtain ⟨Z, HZ⟩ : ∃ Z, Hid (wr.heap.size = Z) := ⟨_, rfl⟩
      rw [HZ.out] at ha ⊢
      have b0 := cell_of_row w5 Z 0 _ _ _ ha
      have b1 := cell_of_row w5 Z 1 _ _ _ ha
      have b2 := cell_of_row w5 Z 2 _ _ _ ha
      have b3 := cell_of_row w5 Z 3 _ _ _ ha
      have e43 : IntKind.i64.wrap (2 * (e.n : Int)) = 2 * (e.n : Int) := wrapI _ (by omega) (by omega)
      have e44 : IntKind.i64.wrap (43 + 2 * (e.n : Int)) = 43 + 2 * (e.n : Int) := wrapI _ (by omega) (by omega)
      have e45 : IntKind.i64.wrap (43 + 2 * (e.n : Int) + (51 + (e.n : Int))) = 94 + 3 * (e.n : Int) := by rw [wrapI _ (by omega) (by omega)]; omega
      have e46 : IntKind.i64.wrap (M + (94 + 3 * (e.n : Int))) = M + (94 + 3 * (e.n : Int)) := wrapI _ (by omega) (by omega)
      go_region_law ((go_simp; go_at_call 196; refine (undoing_any _ _ _ _ _ _ _ _ _ (by omega)).mono ?_; rintro e6 w6 ⟨rfl, f6⟩; have f56 : Fr [] w5 w6 := (Fr.refl [] w5).drew.trans f6; have g3 := cell_of_row w6 Z 3 _ _ _ (f56.same (by simp) ha)))
      all_goals
        go_wp2_with fail
        refine ⟨⟨k + 1, M + (94 + 3 * (e.n : Int)), by go_num, ?_, by go_num, by omega, ?_⟩, ?_⟩
        · rw [HM.out, List.take_add_one, HE.out, sumN_app]
          simp [sumN]
          omega
        · exact (FR.trans fa).trans f56
        · simp [intOf]
          omega
    · have q1 : ¬ (k : Int) < (N : Int) := by omega
      obtain rfl : k = N := by omega
      go_wp2_with fail
      go_ret
      refine ⟨?_, FR⟩
      rw [HM.out, List.take_of_length_le (by have := HS.out.len; omega)]
      rfl
end Go.Proofs.YtopaeomjndblkaaGreat

namespace Go.Proofs.YtopaeomjndblkaaGreat
open Go.RowKit Go.Maps

def chRec (pg off : Nat) (old new : List UInt8) : Rec := ⟨0, 0, 1, 0, 0, 0, (pg : Int), (off : Int), old, new⟩
/-- What lets a book append: its numbers are places. -/
structure TxOk (b : Bk) : Prop where
  num : placeB b.t.num = true
  last : placeB b.t.last = true
  t0 : 1 ≤ b.x.y.T
  t1 : b.x.y.T ≤ 2147483647
theorem chRec_right {b : Bk} (h : TxOk b) (hE : b.x.y.E ≤ 400000) {pg off n : Nat} {old new : List UInt8} (h1 : old.length = n) (h2 : new.length = n) (h0 : 0 < n) (hf : off + n ≤ 512) (hp : pg < 65536) : rightB { txRec b.t (chRec pg off old new) with lsn := (b.x.y.E : Int) + 1, turn := (b.x.y.T : Int) } = true := by
  have a1 := h.num
  have a2 := h.last
  have a3 := h.t0
  have a4 := h.t1
  have e1 : headB { txRec b.t (chRec pg off old new) with lsn := (b.x.y.E : Int) + 1, turn := (b.x.y.T : Int) } = true := by
    simp only [headB, txRec, chRec, a1, a2, Bool.and_true, Bool.and_eq_true, decide_eq_true_eq]
    omega
  have e2 : kindB { txRec b.t (chRec pg off old new) with lsn := (b.x.y.E : Int) + 1, turn := (b.x.y.T : Int) } = true := by
    show (decide ((0 : Int) = 0) && (fitsB (pg : Int) (off : Int) new.length && decide (old.length = new.length))) = true
    have g1 : (0 : Int) ≤ (pg : Int) := by omega
    have g2 : (pg : Int) < 65536 := by omega
    have g3 : (0 : Int) ≤ (off : Int) := by omega
    have g4 : (off : Int) ≤ 512 - (n : Int) := by omega
    rw [h1, h2]
    unfold fitsB
    rw [decide_eq_true g1, decide_eq_true g2, decide_eq_true g3, decide_eq_true h0, decide_eq_true g4, decide_eq_true (rfl : n = n)]
    rfl
  unfold rightB
  rw [e1, e2]
  rfl
theorem chRec_size {b : Bk} {pg off n : Nat} {old new : List UInt8} (h1 : old.length = n) (h2 : new.length = n) (h0 : 0 < n) : (encL { txRec b.t (chRec pg off old new) with lsn := (b.x.y.E : Int) + 1, turn := (b.x.y.T : Int) }).length = 43 + 2 * n := by
  have hn : ¬ n = 0 := by omega
  rw [encL_length]
  simp only [bodyL, b4L, b3L, txRec, chRec, h1, h2, if_neg hn, List.length_append, beK_length]
  simp [beK_length]
  omega
set_option maxHeartbeats 2000000 in
set_option maxRecDepth 100000 in
theorem logChange_any {w : World} {b : Bk} (h : BkAt w b) (ok : TxOk b) {pg off bo bn n : Nat} {old new : List UInt8} (ho : Blk w bo old) (hn : Blk w bn new) (h1 : old.length = n) (h2 : new.length = n) (h0 : 0 < n) (hf : off + n ≤ 512) (hp : pg < 65536) (hroom : ((43 + 2 * n : Nat) : Int) ≤ 408 * (b.x.y.count - 1) - ((b.x.y.E : Int) - (b.x.y.A : Int))) (hE : b.x.y.E + (43 + 2 * n) ≤ 400000) (hc0 : 0 ≤ b.t.chg) (hc1 : b.t.chg ≤ 1000000) (hk0 : 0 ≤ b.t.kept) (hk1 : b.t.kept ≤ 1000000) :
    Calls Tryz.prog 198 #[.pointer (some ⟨b.bp, 0, none⟩), .agg #[.int .i64 (pg : Int), .int .i64 (off : Int), .slice (some ⟨bo, 0, none⟩) n n, .slice (some ⟨bn, 0, none⟩) n n]] w fun e w' => e = .returned (.int .i64 0) ∧ ∃ y', Appd b.x.y y' (43 + 2 * n) (txRec b.t (chRec pg off old new)) ∧ BStep w w' b { b with x := { b.x with y := y' }, t := { b.t with chg := b.t.chg + 1, last := (b.x.y.E : Int) + 1, next := (b.x.y.E : Int) + 1, kept := b.t.kept + (51 + (n : Int)) } } := by
  have hEE := h.po.lo.hE
  have HAD : Hid (∀ w', Fr [] w w' → Calls Tryz.prog 200 #[.pointer (some ⟨b.bp, 0, none⟩), .agg #[.int .i64 0, .int .i64 0, .int .u8 1, .int .i64 0, .int .i64 0, .int .i64 0, .int .i64 (pg : Int), .int .i64 (off : Int), .slice (some ⟨bo, 0, none⟩) n n, .slice (some ⟨bn, 0, none⟩) n n]] w' fun e w'' => e = .returned (.int .i64 0) ∧ ∃ y', Appd b.x.y y' (43 + 2 * n) (txRec b.t (chRec pg off old new)) ∧ BStep w' w'' b { b with x := { b.x with y := y' }, t := { b.t with last := (b.x.y.E : Int) + 1 } }) := hidI (fun w' f => by
    have hx := badd_any (h.quiet f) (chRec pg off old new) ⟨some ⟨bo, 0, none⟩, n, some ⟨bn, 0, none⟩, n⟩ ⟨(ho.kept f (by simp)).bytes, (hn.kept f (by simp)).bytes, (fun e => nomatch e), (fun e => nomatch e)⟩ (chRec_right ok hEE h1 h2 h0 hf hp) (chRec_size h1 h2 h0) hroom hE
    unfold recV at hx
    dsimp only [chRec] at hx
    rw [h1, h2] at hx
    exact hx)
  have fa : Fr [] w (w.alloc (.cells #[.int .i64 (pg : Int), .int .i64 (off : Int), .slice (some ⟨bo, 0, none⟩) n n, .slice (some ⟨bn, 0, none⟩) n n] 42)) := (Fr.refl [] w).alloc _
  have ha := heap_alloc_new w (.cells #[.int .i64 (pg : Int), .int .i64 (off : Int), .slice (some ⟨bo, 0, none⟩) n n, .slice (some ⟨bn, 0, none⟩) n n] 42)
  have HH := hidI h
  have hlt := hidI h.lt
  clear h ok ho hn hroom h1 h2
  obtain ⟨w1, hw1⟩ : ∃ w1, w.alloc (.cells #[.int .i64 (pg : Int), .int .i64 (off : Int), .slice (some ⟨bo, 0, none⟩) n n, .slice (some ⟨bn, 0, none⟩) n n] 42) = w1 := ⟨_, rfl⟩
  rw [hw1] at fa ha
  have c3 : w1.cell? ⟨b.bp, 3, none⟩ = some (.pointer (some ⟨b.dp, 0, none⟩)) := (HH.out.quiet fa).box.c3
  have b0 := cell_of_row w1 w.heap.size 0 _ _ _ ha
  have b1 := cell_of_row w1 w.heap.size 1 _ _ _ ha
  have b2 := cell_of_row w1 w.heap.size 2 _ _ _ ha
  have b3 := cell_of_row w1 w.heap.size 3 _ _ _ ha
  go_enter Tryz.func198, Tryz.ntmps198
  go_wp2_with fail
  refine (HAD.out _ fa).mono ?_
  rintro e w2 ⟨rfl, y', A2, B2⟩
  have HB2 := hidI B2
  have hns : w.heap.size ∉ b.dp :: b.x.own := fun e => by
    have h3 := hlt.out w.heap.size (by rcases List.mem_cons.1 e with e | e <;> simp [e])
    omega
  have ha2 := B2.fr.same hns ha
  have d2 := B2.at'.dl.c2
  have z2 := B2.at'.dl.fz 2
  have D2 := B2.at'.dl.s2 (b.t.chg + 1)
  have S2 := hidI (BStep.deal B2.at' D2 (fr_set _ _ _ _))
  clear B2 b0 b1 b2 b3 c3
  have ec : IntKind.i64.wrap (b.t.chg + 1) = b.t.chg + 1 := wrapI _ (by omega) (by omega)
  obtain ⟨w3, hw3⟩ : ∃ w3, w2.setCell ⟨b.dp, 2, none⟩ (.int .i64 (b.t.chg + 1)) = w3 := ⟨_, rfl⟩
  have S3 := S2
  rw [hw3] at S3
  have d3 := S3.out.at'.dl.c3
  have d4 := S3.out.at'.dl.c4
  have z4 := S3.out.at'.dl.fz 4
  have D4 := S3.out.at'.dl.s4 ((b.x.y.E : Int) + 1)
  have S4 := hidI (BStep.deal S3.out.at' D4 (fr_set _ _ _ _))
  dsimp only at d2 d3 d4
  go_wp2_with fail
  obtain ⟨w4, hw4⟩ : ∃ w4, w3.setCell ⟨b.dp, 4, none⟩ (.int .i64 ((b.x.y.E : Int) + 1)) = w4 := ⟨_, rfl⟩
  have S5 := S4
  rw [hw4] at S5 ⊢
  have f24 : Fr [b.dp] w2 w4 := by
    rw [← hw4, ← hw3]
    exact (fr_set _ _ _ _).trans (fr_set _ _ _ _)
  have ha4 := f24.same (by simp only [List.mem_singleton]; exact fun e => hns (by rw [e]; exact List.mem_cons_self)) ha2
  obtain ⟨Z, HZ⟩ : ∃ Z, Hid (w.heap.size = Z) := ⟨_, rfl⟩
  have hbl : b.bp < w.heap.size := hlt.out _ (by simp)
  have hdl : b.dp < w.heap.size := hlt.out _ (by simp)
  rw [HZ.out] at ha4 hbl hdl ⊢
  have b0 := cell_of_row w4 Z 0 _ _ _ ha4
  have b1 := cell_of_row w4 Z 1 _ _ _ ha4
  have b2 := cell_of_row w4 Z 2 _ _ _ ha4
  have b3 := cell_of_row w4 Z 3 _ _ _ ha4
  have d6 := S5.out.at'.dl.c6
  have z6 := S5.out.at'.dl.fz 6
  dsimp only at d6
  have ek : IntKind.i64.wrap (b.t.kept + (51 + (n : Int))) = b.t.kept + (51 + (n : Int)) := wrapI _ (by omega) (by omega)
  clear d2 d3 d4 z2 z4
  go_region_law ((go_simp; go_at_call 196; refine (undoing_any _ _ _ _ _ _ _ _ _ (by omega)).mono ?_; rintro e6 w6 ⟨rfl, f6⟩; have f46 : Fr [] w4 w6 := (Fr.refl [] w4).drew.trans f6; have B6 := S5.out.at'.quiet f46; have g6 := B6.dl.c6; have y6 := B6.dl.fz 6; have D6 := B6.dl.s6 (b.t.kept + (51 + (n : Int))); have HB6 := hidI B6; clear B6; dsimp only at g6))
  all_goals
    go_wp2_with fail
    go_ret
    refine ⟨rfl, y', A2, ?_⟩
    have st1 := BStep.quiet HH.out fa
    have st2 := (st1.trans HB2.out).trans ((hw3 ▸ S2.out).trans S5.out)
    exact (st2.trans (BStep.quiet S5.out.at' f46)).trans (BStep.deal HB6.out D6 (fr_set _ _ _ _))
end Go.Proofs.YtopaeomjndblkaaGreat

namespace Go.Proofs.YtopaeomjndblkaaGreat
open Go.RowKit Go.Maps
open Pg (SpE diffS)

/-- What stays of a book, whatever a transaction does. -/
structure Tr (b b' : Bk) : Prop where
  pages : b'.x.pages = b.x.pages
  start : b'.x.start = b.x.start
  most : b'.x.most = b.x.most
  nb : b'.x.y.nb = b.x.y.nb
  first : b'.x.y.first = b.x.y.first
  count : b'.x.y.count = b.x.y.count
  T : b'.x.y.T = b.x.y.T
  A : b'.x.y.A = b.x.y.A
  lw : b'.x.y.lw = b.x.y.lw
  low : ∀ k : Int, k < b.x.y.lw → Dv.latest b'.x.y.S b'.x.y.O k = Dv.latest b.x.y.S b.x.y.O k
theorem Tr.refl (b : Bk) : Tr b b := ⟨rfl, rfl, rfl, rfl, rfl, rfl, rfl, rfl, rfl, fun _ _ => rfl⟩
theorem Tr.trans {a b c : Bk} (h : Tr a b) (k : Tr b c) : Tr a c := ⟨k.pages.trans h.pages, k.start.trans h.start, k.most.trans h.most, k.nb.trans h.nb, k.first.trans h.first, k.count.trans h.count, k.T.trans h.T, k.A.trans h.A, k.lw.trans h.lw, fun i hi => (k.low i (by rw [h.lw]; exact hi)).trans (h.low i hi)⟩
theorem Tr.pool {b : Bk} {x' : Po} {t' : Dl} (k : Kin b.x.y x'.y) (h1 : x'.pages = b.x.pages) (h2 : x'.start = b.x.start) (h3 : x'.most = b.x.most) : Tr b { b with x := x', t := t' } := ⟨h1, h2, h3, k.nb, k.first, k.count, k.T, k.A, k.lw, k.low⟩
theorem Tr.appd {b : Bk} {y' : Lo} {t' : Dl} {N : Nat} {r : Rec} (k : Appd b.x.y y' N r) : Tr b { b with x := { b.x with y := y' }, t := t' } := ⟨rfl, rfl, rfl, k.nb, k.first, k.count, k.T, k.A, k.lw, fun i _ => by show Dv.latest y'.S y'.O i = _; rw [k.S, k.O]⟩
theorem Shows.appd {x : Po} {V : Pages} {y' : Lo} {N : Nat} {r : Rec} (h : Shows x V) (k : Appd x.y y' N r) : Shows { x with y := y' } V := h.alike (val_y (fun q _ => by unfold pgD; rw [k.S, k.O]))
def SpBox (w : World) (sb pg off bo bn n : Nat) : Prop := w.heap[sb]? = some (.cells #[.int .i64 (pg : Int), .int .i64 (off : Int), .slice (some ⟨bo, 0, none⟩) n n, .slice (some ⟨bn, 0, none⟩) n n] 42)
set_option maxRecDepth 100000 in
theorem write1_any {w : World} {b : Bk} (h : BkAt w b) (ok : TxOk b) {B sb : Nat} (hB : w.heap[B]? = some (.cells #[.pointer (some ⟨b.bp, 0, none⟩)] 60)) {pg off bo bn n : Nat} (hs : SpBox w sb pg off bo bn n) {old new : List UInt8} (ho : Blk w bo old) (hn : Blk w bn new) (h1 : old.length = n) (h2 : new.length = n) (h0 : 0 < n) (hf : off + n ≤ 512) (hp : pg < 65536) (hroom : ((43 + 2 * n : Nat) : Int) ≤ 408 * (b.x.y.count - 1) - ((b.x.y.E : Int) - (b.x.y.A : Int))) (hE : b.x.y.E + (43 + 2 * n) ≤ 400000) (hc0 : 0 ≤ b.t.chg) (hc1 : b.t.chg ≤ 1000000) (hk0 : 0 ≤ b.t.kept) (hk1 : b.t.kept ≤ 1000000) :
    Calls Tryz.prog 197 #[.pointer (some ⟨B, 0, none⟩), .pointer (some ⟨sb, 0, none⟩)] w fun e w' => e = .returned (.int .i64 0) ∧ ∃ y', Appd b.x.y y' (43 + 2 * n) (txRec b.t (chRec pg off old new)) ∧ BStep w w' b { b with x := { b.x with y := y' }, t := { b.t with chg := b.t.chg + 1, last := (b.x.y.E : Int) + 1, next := (b.x.y.E : Int) + 1, kept := b.t.kept + (51 + (n : Int)) } } := by
  have HC := hidI (logChange_any h ok ho hn h1 h2 h0 hf hp hroom hE hc0 hc1 hk0 hk1)
  have c0 := cell_of_row w B 0 _ _ _ hB
  have b0 := cell_of_row w sb 0 _ _ _ hs
  have b1 := cell_of_row w sb 1 _ _ _ hs
  have b2 := cell_of_row w sb 2 _ _ _ hs
  have b3 := cell_of_row w sb 3 _ _ _ hs
  clear h ok hB hs ho hn h1 h2 h0 hf hp hroom hE hc0 hc1 hk0 hk1
  go_enter Tryz.func197, Tryz.ntmps197
  go_wp2_with fail
  refine HC.out.mono ?_
  rintro e w2 ⟨rfl, h2⟩
  go_wp2_with fail
  go_ret
  exact ⟨rfl, h2⟩
theorem Chg.pages {x x'' : Po} {page off : Nat} {l : List UInt8} {lsn : Int} (h : Chg x x'' page off l lsn) (hn : ((ids x.fs).map (·.1)).Nodup) : x''.pages = x.pages ∧ x''.start = x.start ∧ x''.most = x.most ∧ x''.pp = x.pp := by
  obtain ⟨f, x', j, hf, _, rfl⟩ := h
  obtain ⟨⟨h1, h2, h3, h4, _⟩, _⟩ := hf.alike hn
  exact ⟨h2, h1, h3, h4⟩
theorem Shows.chg {w w' : World} {x x'' : Po} (hx : PoAt w x) (hx2 : PoAt w' x'') {V : Pages} (h : Shows x V) {page off : Nat} {l : List UInt8} {lsn : Int} (k : Chg x x'' page off l lsn) : Shows x'' (setPg V page (over (V page) off l)) := by
  have hpg := k.pages hx.nod
  intro q hq
  rw [hpg.1] at hq
  obtain ⟨_, _, _, _, _, _, hne, heq⟩ := k.val hx.nod hx2.nod
  unfold setPg
  by_cases e : q = page
  · subst e
    rw [if_pos rfl]
    exact heq _ (h q hq)
  · rw [if_neg e]
    exact hne q hq e _ (h q hq)
set_option maxHeartbeats 1000000 in
set_option maxRecDepth 100000 in
theorem bchange_any {w : World} {b : Bk} (h : BkAt w b) {page : Nat} (hp : page < b.x.pages) (off : Nat) (a1 : Option Addr) (n1 c1 : Nat) (bn n c : Nat) (l : List UInt8) (hl : l.length = n) (hl0 : 0 < n) (hfit : off + n ≤ 512) (hb : Blk w bn l) (hbo : bn ∉ b.x.own) (lsn : Int) (hl1 : 1 ≤ lsn) (hl2 : lsn ≤ (b.x.y.E : Int)) :
    Calls Tryz.prog 69 #[.pointer (some ⟨b.x.pp, 0, none⟩), .agg #[.int .i64 (page : Int), .int .i64 (off : Int), .slice a1 n1 c1, .slice (some ⟨bn, 0, none⟩) n c], .int .i64 lsn] w fun e w' => e = .returned (.int .i64 0) ∧ ∃ x'', Chg b.x x'' page off l lsn ∧ BStep w w' b { b with x := x'' } := by
  subst hl
  refine (change_any h.po hp off a1 n1 c1 (some ⟨bn, 0, none⟩) c l hl0 hfit hb.bytes (fun b' o e => by cases e; exact hbo) lsn hl1 hl2).mono ?_
  rintro e w' (⟨rfl, hbz, _⟩ | ⟨f, x', j, rfl, st, hf, hj⟩)
  · exact (hbz.no h.hd0 h.po.m0).elim
  · have hc : Chg b.x { x' with fs := x'.fs.set j (f.changed off l lsn) } page off l lsn := ⟨f, x', j, hf, hj, rfl⟩
    have k := hc.kin
    exact ⟨rfl, _, hc, BStep.pool h st k.d k.p (hc.pages h.po.nod).2.2.2 (hc.hd0 h.hd0) ⟨by rw [k.ls]; exact h.ls.rise, by rw [k.ls, k.A, k.E]; exact h.ls.le⟩⟩
set_option maxHeartbeats 1000000 in
set_option maxRecDepth 100000 in
theorem write2_any {w : World} {b : Bk} (h : BkAt w b) {B sb : Nat} (hB : w.heap[B]? = some (.cells #[.pointer (some ⟨b.bp, 0, none⟩)] 60)) {pg off bo bn n : Nat} (hs : SpBox w sb pg off bo bn n) (hp : pg < b.x.pages) {new : List UInt8} (hn : Blk w bn new) (h2 : new.length = n) (h0 : 0 < n) (hf : off + n ≤ 512) (hbo : bn ∉ b.x.own) (hl1 : 1 ≤ b.t.last) (hl2 : b.t.last ≤ (b.x.y.E : Int)) :
    Calls Tryz.prog 199 #[.pointer (some ⟨B, 0, none⟩), .pointer (some ⟨sb, 0, none⟩)] w fun e w' => e = .returned (.int .i64 0) ∧ ∃ x'', Chg b.x x'' pg off new b.t.last ∧ BStep w w' b { b with x := x'' } := by
  have HC : Hid (∀ w', Fr [] w w' → Calls Tryz.prog 69 #[.pointer (some ⟨b.x.pp, 0, none⟩), .agg #[.int .i64 (pg : Int), .int .i64 (off : Int), .slice (some ⟨bo, 0, none⟩) n n, .slice (some ⟨bn, 0, none⟩) n n], .int .i64 b.t.last] w' fun e w'' => e = .returned (.int .i64 0) ∧ ∃ x'', Chg b.x x'' pg off new b.t.last ∧ BStep w w'' b { b with x := x'' }) := hidI (fun w' f => by
    refine (bchange_any (h.quiet f) hp off _ n n bn n n new h2 h0 hf (hn.kept f (by simp)) hbo b.t.last hl1 hl2).mono ?_
    rintro e w'' ⟨he, x'', hc, st⟩
    exact ⟨he, x'', hc, (BStep.quiet h f).trans st⟩)
  have c0 := cell_of_row w B 0 _ _ _ hB
  have b0 := cell_of_row w sb 0 _ _ _ hs
  have b1 := cell_of_row w sb 1 _ _ _ hs
  have b2 := cell_of_row w sb 2 _ _ _ hs
  have b3 := cell_of_row w sb 3 _ _ _ hs
  have e2 : w.cell? ⟨b.bp, 2, none⟩ = some (.pointer (some ⟨b.x.pp, 0, none⟩)) := h.box.c2
  have e3 : w.cell? ⟨b.bp, 3, none⟩ = some (.pointer (some ⟨b.dp, 0, none⟩)) := h.box.c3
  have d3 := h.dl.c3
  clear h hB hs hp hn h2 h0 hf hbo hl1 hl2
  go_enter Tryz.func199, Tryz.ntmps199
  go_wp2_with fail
  go_region_law ((go_simp; go_at_call 69; refine (HC.out _ (Fr.refl [] w).drew).mono ?_; rintro e w2 ⟨rfl, h2⟩))
  all_goals
    go_wp2_with fail
    go_ret
    exact ⟨rfl, h2⟩
end Go.Proofs.YtopaeomjndblkaaGreat

namespace Go.Proofs.YtopaeomjndblkaaGreat
open Go.RowKit Go.Maps
open Pg (SpE diffS mixL lastE)

def logN : List SpE → Nat
  | [] => 0
  | e :: S => 43 + 2 * e.n + logN S
def undN : List SpE → Int
  | [] => 0
  | e :: S => 51 + (e.n : Int) + undN S
theorem sumN_eq : ∀ S : List SpE, sumN S = (logN S : Int) + undN S
  | [] => by simp [sumN, logN, undN]
  | e :: S => by
    have := sumN_eq S
    simp only [sumN, logN, undN]
    omega
theorem logN_app (S T : List SpE) : logN (S ++ T) = logN S + logN T := by
  induction S with
  | nil => simp [logN]
  | cons e S ih => simp [logN, ih]; omega
theorem undN_app (S T : List SpE) : undN (S ++ T) = undN S + undN T := by
  induction S with
  | nil => simp [undN]
  | cons e S ih => simp [undN, ih]; omega
theorem undN_nonneg : ∀ S : List SpE, 0 ≤ undN S
  | [] => by simp [undN]
  | e :: S => by
    have := undN_nonneg S
    simp only [undN]
    omega
theorem logN_take (S : List SpE) {k : Nat} {e : SpE} (h : S[k]? = some e) : logN (S.take (k + 1)) = logN (S.take k) + (43 + 2 * e.n) := by
  rw [List.take_add_one, h, logN_app]
  simp [logN]
theorem undN_take (S : List SpE) {k : Nat} {e : SpE} (h : S[k]? = some e) : undN (S.take (k + 1)) = undN (S.take k) + (51 + (e.n : Int)) := by
  rw [List.take_add_one, h, undN_app]
  simp [undN]
theorem logN_le (S : List SpE) (k : Nat) : logN (S.take k) ≤ logN S := by
  have h := logN_app (S.take k) (S.drop k)
  rw [List.take_append_drop] at h
  omega
theorem undN_le (S : List SpE) (k : Nat) : undN (S.take k) ≤ undN S := by
  have h := undN_app (S.take k) (S.drop k)
  rw [List.take_append_drop] at h
  have := undN_nonneg (S.drop k)
  omega
/-- The page as it is with the first k spans put. -/
def mixK (la lb : List UInt8) (k : Nat) : List UInt8 := mixL la lb (lastE (diffS la lb) k)
/-- Spans of two pages, one of them. -/
structure SpOk (la lb : List UInt8) (k : Nat) (e : SpE) : Prop where
  n0 : 0 < e.n
  fit : e.off + e.n ≤ 512
  old : ((la.drop e.off).take e.n).length = e.n
  new : ((lb.drop e.off).take e.n).length = e.n
  was : ((mixK la lb k).drop e.off).take e.n = (la.drop e.off).take e.n
  len : (mixK la lb k).length = 512
  put : over (mixK la lb k) e.off ((lb.drop e.off).take e.n) = mixK la lb (k + 1)
theorem spOk {la lb : List UInt8} (ha : la.length = 512) (hb : lb.length = 512) {S : List SpE} (hS : S.map (fun e => (e.off, e.off + e.n)) = diffS la lb) {k : Nat} {e : SpE} (he : S[k]? = some e) : SpOk la lb k e := by
  obtain ⟨hk, hke⟩ := List.getElem?_eq_some_iff.1 he
  have hkd : k < (diffS la lb).length := by rw [← hS, List.length_map]; exact hk
  have hde : (diffS la lb)[k]'hkd = (e.off, e.off + e.n) := by
    have h1 : (diffS la lb)[k]? = some (e.off, e.off + e.n) := by rw [← hS, List.getElem?_map, he]; rfl
    exact (List.getElem?_eq_some_iff.1 h1).2
  have ok := Pg.diff_tok la lb k hkd
  rw [hde] at ok
  have k1 := ok.lt
  have k2 := ok.le
  have k3 := ok.gap
  dsimp only at k1 k2 k3
  have hL : lastE (diffS la lb) k ≤ e.off := by omega
  refine ⟨by omega, k2, by rw [List.length_take, List.length_drop]; omega, by rw [List.length_take, List.length_drop]; omega, ?_, Pg.mixL_length la lb _ ha hb (by omega), ?_⟩
  · congr 1
    unfold mixK mixL
    rw [List.drop_append, List.drop_of_length_le (by rw [List.length_take]; omega), List.nil_append, List.drop_drop]
    congr 1
    rw [List.length_take]
    omega
  · have h1 := Pg.mixL_step la lb _ _ _ ha hb hL ok
    dsimp only at h1
    rw [show e.off + e.n - e.off = e.n by omega] at h1
    unfold mixK
    rw [Pg.lastE_succ _ k hkd, hde]
    exact h1
theorem mixK_zero (la lb : List UInt8) : mixK la lb 0 = la := Pg.mixL_zero la lb
theorem mixK_all {la lb : List UInt8} (ha : la.length = 512) (hb : lb.length = 512) : mixK la lb (diffS la lb).length = lb := by
  unfold mixK
  have hle : lastE (diffS la lb) (diffS la lb).length ≤ 512 := by
    unfold lastE
    split
    · omega
    · next h0 =>
      have hl : (diffS la lb).length - 1 < (diffS la lb).length := by omega
      rw [List.getD_eq_getElem?_getD, List.getElem?_eq_getElem hl]
      exact Pg.diff_ends la lb _ (List.getElem_mem hl)
  exact Pg.mixL_all la lb _ ha hb hle (fun j h1 h2 => Pg.diff_same la lb _ (Nat.le_refl _) j h2 h1 (fun h => absurd h (by omega)))
/-- What holds when k spans are logged, and j of them done. -/
structure WInv (w : World) (b : Bk) (H : List Ch) (V : Pages) (pg : Nat) (la lb : List UInt8) (S : List SpE) (k j : Nat) (wr : World) (b' : Bk) (H' : List Ch) : Prop where
  st : BStep w wr b b'
  tr : Tr b b'
  ss : b'.t.st = b.t.st
  und : b'.t.und = b.t.und
  num : b'.t.num = b.t.num
  chg : b'.t.chg = b.t.chg + (k : Int)
  E : b'.x.y.E = b.x.y.E + logN (S.take k)
  kept : b'.t.kept = keptOf H'
  keq : keptOf H' = keptOf H + undN (S.take k)
  next : b'.t.next = nextOf H'
  last : b'.t.last = nextOf H'
  nx : 0 ≤ nextOf H' ∧ nextOf H' ≤ (b'.x.y.E : Int)
  chain : Chain b'.x.y b.t.num H'
  sh : Shows b'.x (setPg V pg (mixK la lb j))
  un : undoAll H' (setPg V pg (mixK la lb k)) = undoAll H V
  one : j < k → 1 ≤ nextOf H'
  pgs : ∀ c ∈ H', c.pg < b.x.pages
theorem setPg_same (V : Pages) (q : Nat) (l m : List UInt8) : setPg (setPg V q l) q m = setPg V q m := by
  funext k
  unfold setPg
  by_cases e : k = q <;> simp [e]
theorem setPg_at (V : Pages) (q : Nat) (l : List UInt8) : setPg V q l q = l := by simp [setPg]
theorem WInv.log {w wr wr' : World} {b : Bk} {H : List Ch} {V : Pages} {pg : Nat} {la lb : List UInt8} {S : List SpE} {k : Nat} {b' : Bk} {H' : List Ch} (h : WInv w b H V pg la lb S k k wr b' H') {e : SpE} (he : S[k]? = some e) (ok : SpOk la lb k e) (tx : TxOk b') (hE4 : b'.x.y.E ≤ 400000) (hpg : pg < 65536) (hpp : pg < b.x.pages) {y' : Lo} (ap : Appd b'.x.y y' (43 + 2 * e.n) (txRec b'.t (chRec pg e.off ((la.drop e.off).take e.n) ((lb.drop e.off).take e.n))))
    (st : BStep wr wr' b' { b' with x := { b'.x with y := y' }, t := { b'.t with chg := b'.t.chg + 1, last := (b'.x.y.E : Int) + 1, next := (b'.x.y.E : Int) + 1, kept := b'.t.kept + (51 + (e.n : Int)) } }) :
    WInv w b H V pg la lb S (k + 1) k wr' { b' with x := { b'.x with y := y' }, t := { b'.t with chg := b'.t.chg + 1, last := (b'.x.y.E : Int) + 1, next := (b'.x.y.E : Int) + 1, kept := b'.t.kept + (51 + (e.n : Int)) } } (⟨b'.x.y.E, pg, e.off, (la.drop e.off).take e.n, (lb.drop e.off).take e.n⟩ :: H') := by
  have hy := h.st.at'.po.lo
  refine ⟨h.st.trans st, h.tr.trans (Tr.appd ap), h.ss, h.und, h.num, ?_, ?_, ?_, ?_, rfl, rfl, ?_, ⟨?_, h.nx.2, ?_⟩, h.sh.appd ap, ?_, ?_, ?_⟩
  · show b'.t.chg + 1 = b.t.chg + ((k + 1 : Nat) : Int)
    rw [h.chg]
    omega
  · show y'.E = _
    rw [ap.E, h.E, logN_take S he]
    omega
  · show b'.t.kept + (51 + (e.n : Int)) = 51 + (((lb.drop e.off).take e.n).length : Int) + keptOf H'
    rw [ok.new, h.kept]
    omega
  · show 51 + (((lb.drop e.off).take e.n).length : Int) + keptOf H' = _
    rw [ok.new, h.keq, undN_take S he]
    omega
  · show 0 ≤ (b'.x.y.E : Int) + 1 ∧ (b'.x.y.E : Int) + 1 ≤ (y'.E : Int)
    rw [ap.E]
    omega
  · have hr := chRec_right tx hE4 ok.old ok.new ok.n0 ok.fit hpg
    have h1 := RecIn.new hy ap (by omega) hr
    have e1 : recOf b.t.num (y'.T : Int) (nextOf H') ⟨b'.x.y.E, pg, e.off, (la.drop e.off).take e.n, (lb.drop e.off).take e.n⟩ = { txRec b'.t (chRec pg e.off ((la.drop e.off).take e.n) ((lb.drop e.off).take e.n)) with lsn := (b'.x.y.E : Int) + 1, turn := (b'.x.y.T : Int) } := by
      unfold recOf txRec chRec
      rw [ap.T, ← h.num, ← h.last]
    show RecIn y' b'.x.y.E (recOf b.t.num (y'.T : Int) (nextOf H') _)
    rw [e1]
    exact h1
  · exact h.chain.appd hy ap
  · show undoAll H' (undo1 _ (setPg V pg (mixK la lb (k + 1)))) = _
    rw [← h.un]
    congr 1
    have h1 := undo1_do (V := setPg V pg (mixK la lb k)) (c := ⟨b'.x.y.E, pg, e.off, (la.drop e.off).take e.n, (lb.drop e.off).take e.n⟩) (by dsimp only; rw [setPg_at, ok.new, ok.was]) (by dsimp only; rw [setPg_at, ok.new, ok.len]; exact ok.fit)
    dsimp only at h1
    rw [setPg_at, setPg_same, ok.put] at h1
    exact h1
  · intro _
    show (1 : Int) ≤ (b'.x.y.E : Int) + 1
    omega
  · intro c hc
    rcases List.mem_cons.1 hc with rfl | hc
    · exact hpp
    · exact h.pgs c hc
theorem WInv.chg' {w wr wr' : World} {b : Bk} {H : List Ch} {V : Pages} {pg : Nat} {la lb : List UInt8} {S : List SpE} {k : Nat} {b' : Bk} {H' : List Ch} (h : WInv w b H V pg la lb S (k + 1) k wr b' H') {e : SpE} (ok : SpOk la lb k e) {x'' : Po} (c : Chg b'.x x'' pg e.off ((lb.drop e.off).take e.n) b'.t.last) (st : BStep wr wr' b' { b' with x := x'' }) :
    WInv w b H V pg la lb S (k + 1) (k + 1) wr' { b' with x := x'' } H' := by
  have kk := c.kin
  have hp := c.pages h.st.at'.po.nod
  refine ⟨h.st.trans st, h.tr.trans (Tr.pool (t' := b'.t) kk hp.1 hp.2.1 hp.2.2.1), h.ss, h.und, h.num, h.chg, ?_, h.kept, h.keq, h.next, h.last, ?_, h.chain.kin kk, ?_, h.un, fun h1 => absurd h1 (by omega), h.pgs⟩
  · show x''.y.E = _
    rw [kk.E, h.E]
  · show 0 ≤ nextOf H' ∧ nextOf H' ≤ (x''.y.E : Int)
    rw [kk.E]
    exact h.nx
  · have h1 := h.sh.chg h.st.at'.po st.at'.po c
    rw [setPg_at, setPg_same, ok.put] at h1
    exact h1
end Go.Proofs.YtopaeomjndblkaaGreat

