/-
  Lists of numbers that lie apart: laws for what is done to them.
-/
import Derived.Test.YtdfgmdddnehocabGreatDoorAbFlat
import Derived.Deep.AppendLies
import Derived.Laws.MakeOwn
namespace Go.Proofs.YtdfgmdddnehocabGreatDoor.Ab
open Go.RowKit Go.Maps

theorem mark_anyI (w : World) (k i : Int) (hk0 : 0 ≤ k) (hk1 : k ≤ 600) (hi0 : 0 ≤ i) (hi1 : i ≤ 1000000) :
    Calls Tryz.prog 62 #[.int .i64 k, .int .i64 i] w fun e w' => e = .returned (.int .i64 (1000003 * (k + 7) + i)) ∧ w' = w := by
  go_enter Tryz.func62, Tryz.ntmps62
  go_wp2
  go_ret
  exact ⟨rfl, rfl⟩
theorem own_keptI {w w' : World} {B : Nat} {e : TypeId} {v : Value} {n : Nat} {xs : List Value} {L : List Nat} (h : w.ownsRow B e 1 v n xs) (k : Fr L w w') (hL : ∀ g, v.ownBlock = some g → g ∉ L) : w'.ownsRow B e 1 v n xs := by
  obtain ⟨h1, h2⟩ := h
  refine ⟨h1, ?_⟩
  rcases h2 with hn | ⟨g, cap, cur, rfl, hb, hg, r⟩
  · exact Or.inl hn
  · exact Or.inr ⟨g, cap, cur, rfl, hb, k.same (hL g rfl) hg, r⟩
theorem fr_grownI {w w' : World} {row : Option Nat} (k : w.grownBy w' row) : Fr row.toList w w' := (Fr.refl _ _).grown k (fun j e _ => by simp [e])
theorem infoI' : ∃ i, Tryz.prog.info? 3 = some i ∧ i.zero = some (.int .i64 0) ∧ i.size = 1 ∧ i.bytes = 8 := by
  have h : (Tryz.prog.info? 3).map (fun i => (i.zero, i.size, i.bytes)) = some (some (.int .i64 0), 1, 8) := by kernel_rfl
  cases hi : Tryz.prog.info? 3 with
  | none => rw [hi] at h; cases h
  | some i =>
    rw [hi] at h
    simp at h
    exact ⟨i, rfl, h.1, h.2.1, h.2.2⟩
theorem infoLI' : ∃ i, Tryz.prog.info? 29 = some i ∧ i.zero = some (.slice none 0 0) ∧ i.size = 1 ∧ i.bytes = 24 := by
  have h : (Tryz.prog.info? 29).map (fun i => (i.zero, i.size, i.bytes)) = some (some (.slice none 0 0), 1, 24) := by kernel_rfl
  cases hi : Tryz.prog.info? 29 with
  | none => rw [hi] at h; cases h
  | some i =>
    rw [hi] at h
    simp at h
    exact ⟨i, rfl, h.1, h.2.1, h.2.2⟩
/-- The mark of a place in a list of numbers. -/
def mBI (k i : Int) : Int := 1000003 * (k + 7) + i
theorem markByte_eqI (w : World) (k i : Int) (hk0 : 0 ≤ k) (hk1 : k ≤ 600) (hi0 : 0 ≤ i) (hi1 : i ≤ 1000000) :
    Calls Tryz.prog 62 #[.int .i64 k, .int .i64 i] w fun e w' => e = .returned (.int .i64 (mBI k i)) ∧ w' = w := mark_anyI w k i hk0 hk1 hi0 hi1
theorem markByte_anyI (w : World) (k i : Int) (hk0 : 0 ≤ k) (hk1 : k ≤ 600) (hi0 : 0 ≤ i) (hi1 : i ≤ 1000000) :
    Calls Tryz.prog 62 #[.int .i64 k, .int .i64 i] w fun e w' => e = .returned (.int .i64 (mBI k i)) ∧ w = w' := (mark_anyI w k i hk0 hk1 hi0 hi1).mono fun _ _ h => ⟨h.1, h.2.symm⟩
def mvI (k i : Nat) : Value := .int .i64 (mBI (k : Int) (i : Int))
def marksI (k m : Nat) : List Value := (List.range m).map (mvI k)
theorem marksI_length (k m : Nat) : (marksI k m).length = m := by simp [marksI]
theorem marksI_at (k m i : Nat) (h : i < m) : (marksI k m)[i]? = some (mvI k i) := by simp [marksI, h]
theorem marksI_succ (k m : Nat) : marksI k (m + 1) = marksI k m ++ [mvI k m] := by simp [marksI, List.range_succ]
theorem marksI_eq {k m : Nat} {xs : List Value} (hl : xs.length = m) (h : ∀ i, i < m → xs[i]? = some (mvI k i)) : xs = marksI k m := by
  apply List.ext_getElem?
  intro i
  by_cases hi : i < m
  · rw [h i hi, marksI_at k m i hi]
  · rw [List.getElem?_eq_none (by omega), List.getElem?_eq_none (by rw [marksI_length]; omega)]

/-! ### rows of bytes that are owned -/
theorem own_cellI {w : World} {ad : Option Addr} {n cap : Nat} {xs : List Value} (h : w.ownsRow 0 3 1 (.slice ad n cap) n xs) (i : Nat) (hi : i < n) :
    ∃ g, ad = some ⟨g, 0, none⟩ ∧ (∃ v, xs[i]? = some v ∧ w.cell? ⟨g, i, none⟩ = some v) ∧ w.frozen? ⟨g, i, none⟩ = false ∧ g < w.heap.size := by
  obtain ⟨h1, h2⟩ := h
  rcases h2 with ⟨e, e2⟩ | ⟨g, c, cur, e, _, hg, hnc, _, hcs, ht⟩
  · omega
  · cases e
    refine ⟨g, rfl, ?_, frozen_of_row w g i _ _ hg, (Array.getElem?_eq_some_iff.1 hg).1⟩
    have hx : i < xs.length := by omega
    refine ⟨xs[i], List.getElem?_eq_getElem hx, ?_⟩
    rw [cell_of_row w g i _ _ _ hg, ← List.getElem?_eq_getElem hx, ← ht, List.getElem?_take, if_pos (by omega)]
    simp

theorem own_setI {w : World} {g n cap : Nat} {xs : List Value} (h : w.ownsRow 0 3 1 (.slice (some ⟨g, 0, none⟩) n cap) n xs) (i : Nat) (x : Value) :
    (w.setCell ⟨g, i, none⟩ x).ownsRow 0 3 1 (.slice (some ⟨g, 0, none⟩) n cap) n (xs.set i x) := by
  obtain ⟨h1, h2⟩ := h
  rcases h2 with ⟨e, e2⟩ | ⟨g, c, cur, e, hb, hg, hnc, hcm, hcs, ht⟩
  · cases e
  · cases e
    refine ⟨by simpa using h1, Or.inr ⟨g, cap, _, rfl, hb, heap_setCell_same w g i _ _ x hg, hnc, hcm, by simpa using hcs, ?_⟩⟩
    rw [← ht]
    simp only [Array.toList_setIfInBounds, List.take_set]

theorem own_ltI {w : World} {v : Value} {n : Nat} {xs : List Value} (h : w.ownsRow 0 3 1 v n xs) (g : Nat) (hg : v.ownBlock = some g) : g < w.heap.size := by
  rcases h.2 with ⟨e, _⟩ | ⟨g', _, cur, e, _, hh, _⟩
  · rw [e] at hg; cases hg
  · rw [e] at hg
    have : g' = g := by simpa [Value.ownBlock] using hg
    subst this
    exact (Array.getElem?_eq_some_iff.1 hh).1

theorem own_drewI {w : World} {v : Value} {n : Nat} {xs : List Value} (h : w.ownsRow 0 3 1 v n xs) : w.drew.ownsRow 0 3 1 v n xs := h

/-- append, and what all other rows hold behind it. -/
theorem run_appI (w : World) (ty : TypeId) (v : Value) (m : Nat) (xs : List Value) (hown : w.ownsRow 0 3 1 v m xs) (ad : Addr) (k c : Nat) (news : List Value) (hl : news.length = k) (hnews : ∀ j u, news[j]? = some u → w.cell? (ad.add j) = some u) (h1 : ∀ u ∈ news, u.oneCell' = true) (hk : 0 < k) (hm : m + k ≤ 16777216) :
    ∃ g cap w', (Builtin.append_ #[29, 29] ty #[v, .slice (some ad) k c]).run Tryz.prog w = .ok (.slice (some ⟨g, 0, none⟩) (m + k) cap) w' ∧ w'.ownsRow 0 3 1 (.slice (some ⟨g, 0, none⟩) (m + k) cap) (m + k) (xs ++ news) ∧ Fr v.ownBlock.toList w w' ∧ (v.ownBlock = some g ∨ g = w.heap.size) ∧ g < w'.heap.size ∧
      (∀ u p ys, w.ownsRow 0 3 1 u p ys → (u.ownBlock = v.ownBlock → p ≤ m) → w'.ownsRow 0 3 1 u p ys) := by
  obtain ⟨i, hi, hz, hsz, hb⟩ := infoI'
  obtain ⟨g, cap, w', hrun, h2, h3, h5, h6⟩ := run_append_lies (P := Tryz.prog) w 29 ty 0 3 i (.int .i64 0) 1 8 Tryz.underlying29 hi hz hsz hb rfl (by omega) v m xs hown ad k c news (by omega) hnews h1 hk (by unfold maxLen; omega) (by omega) (Nat.zero_le _) _ rfl
  refine ⟨g, cap, w', hrun, h2, fr_grownI h3, h5, h6, ?_⟩
  intro u p ys hu hle
  rcases hown.2 with ⟨rfl, rfl⟩ | ⟨g0, cap0, cur, rfl, hbg, hg, hnc, hcm, hcs, htake⟩
  · exact own_keptI hu (fr_grownI h3) (by simp [Value.ownBlock])
  · by_cases hroom : m + k ≤ cap0
    · have hr := run_append_room (P := Tryz.prog) w 29 ty 3 i Tryz.underlying29 hi g0 m cap0 cur hg ad k c news (by rw [hsz]; omega) hnews h1 hroom (by rw [hsz]; omega)
      rw [hr] at hrun
      injection hrun with _ hw
      subst hw
      obtain ⟨u1, u2⟩ := hu
      refine ⟨u1, ?_⟩
      rcases u2 with hn | ⟨gu, capu, curu, rfl, hbu, hgu, hnu, hcu, hsu, htu⟩
      · exact Or.inl hn
      · by_cases e : gu = g0
        · subst e
          have hp := hle rfl
          rw [hg] at hgu
          cases hgu
          refine Or.inr ⟨gu, capu, _, rfl, hbu, setRow_heap w gu _ _ 3 _ hg, hnu, hcu, ?_, ?_⟩
          · simp [hsz]; omega
          · rw [← htu]
            simp only [List.append_assoc]
            rw [List.take_append_of_le_length (by simp [hsz]; omega), List.take_take]
            rw [hsz, Nat.mul_one, Nat.mul_one, Nat.min_eq_left hp]
        · exact Or.inr ⟨gu, capu, curu, rfl, hbu, by rw [setRow_other w g0 gu _ (fun e2 => e e2)]; exact hgu, hnu, hcu, hsu, htu⟩
    · have holds : ∀ j u, xs[j]? = some u → w.cell? ((⟨g0, 0, none⟩ : Addr).add j) = some u := hown.cells (g := g0) rfl
      have hr := run_append_grow (P := Tryz.prog) w 29 ty 3 i (.int .i64 0) Tryz.underlying29 hi hz ⟨g0, 0, none⟩ m cap0 xs (by rw [hsz]; exact hown.1) holds ad k c news (by rw [hsz]; omega) hnews (by omega) (by omega) (growslice_fits (by omega) (by rw [hb]; omega))
      rw [hr] at hrun
      injection hrun with _ hw
      subst hw
      exact own_keptI (L := []) hu ((Fr.refl _ _).drew.alloc _) (by simp)

section
variable {ops : Array Oper} {rest : List Oper} {o : Oper} {a : Act} {w : World} {Q : Exit → Act → World → Prop}
theorem wp_appI (hgd : o.guard = none) (s x : Operand) (ho : o.op = .call { callee := .builtin .append, args := #[s, x], argTypes := #[29, 29] }) (v : Value) (m : Nat) (xs : List Value) (hs : a.eval s = v) (hown : w.ownsRow 0 3 1 v m xs)
    (b k c : Nat) (news : List Value) (hl : news.length = k) (hx : a.eval x = .slice (some ⟨b, 0, none⟩) k c) (hnews : ∀ j u, news[j]? = some u → w.cell? ⟨b, j, none⟩ = some u) (h1 : ∀ u ∈ news, u.oneCell' = true) (hk : 0 < k) (hm : m + k ≤ 16777216)
    (h : ∀ g cap w', w'.ownsRow 0 3 1 (.slice (some ⟨g, 0, none⟩) (m + k) cap) (m + k) (xs ++ news) → Fr v.ownBlock.toList w w' → (v.ownBlock = some g ∨ g = w.heap.size) → g < w'.heap.size → (∀ u p ys, w.ownsRow 0 3 1 u p ys → (u.ownBlock = v.ownBlock → p ≤ m) → w'.ownsRow 0 3 1 u p ys) → wpList Tryz.prog ops Q rest (a.put o.dst (.slice (some ⟨g, 0, none⟩) (m + k) cap)) w') : wpList Tryz.prog ops Q (o :: rest) a w :=
  wpList_plain hgd fun K hK => by
    obtain ⟨g, cap, w', hrun, h2, h3, h5, h6, h7⟩ := run_appI w o.type v m xs hown ⟨b, 0, none⟩ k c news hl (by intro j u hu; rw [Addr.add_mid]; simpa using hnews j u hu) h1 hk hm
    unfold Oper.wp execOp
    simp [ho, resolve, invoke, builtin, hs, hx, hrun, Result.andThen]
    exact hK _ _ (h _ _ _ h2 h3 h5 h6 h7)

theorem wp_makeLI (hgd : o.guard = none) (x y : Operand) (ho : o.op = .makeSlice 33 x y) (n : Nat) (hx : a.eval x = .int .i64 (n : Int)) (hy : a.eval y = .int .i64 (n : Int)) (hn : n ≤ 100000)
    (h : ∀ w' gv, w'.heap[w.heap.size]? = some (.cells gv 29) → gv.size = n → Fr [] w w' → wpList Tryz.prog ops Q rest (a.put o.dst (.slice (some ⟨w.heap.size, 0, none⟩) n n)) w') : wpList Tryz.prog ops Q (o :: rest) a w :=
  wpList_plain hgd fun K hK => by
    obtain ⟨i, hi, hz, hs, hb⟩ := infoLI'
    have hrun := run_makeSlice (P := Tryz.prog) w 33 29 i (.slice none 0 0) Tryz.underlying33 hi hz .i64 .i64 (n : Int) (n : Int) (by omega) (by omega) (by rw [hs]; omega) (by rw [hb]; omega) (by omega)
    rw [hs, Int.toNat_natCast, Nat.mul_one] at hrun
    unfold Oper.wp execOp
    simp [ho, hx, hy, hrun, Result.andThen]
    exact hK _ _ (h _ _ (heap_alloc_new w _) (by simp [madeCells]) ((Fr.refl _ _).alloc _))
/-- A block of 64 numbers. -/
def ManyI (w : World) (b : Nat) : Prop := ∃ cur : Array Value, w.heap[b]? = some (.cells cur 3) ∧ cur.size = 64 ∧ ∀ v ∈ cur.toList, v.oneCell' = true
theorem wp_makeI (hgd : o.guard = none) (x y : Operand) (ho : o.op = .makeSlice 29 x y) (hx : a.eval x = .int .i64 64) (hy : a.eval y = .int .i64 64)
    (h : ∀ w' g, w.heap.size ≤ g → ManyI w' g → Fr [] w w' → wpList Tryz.prog ops Q rest (a.put o.dst (.slice (some ⟨g, 0, none⟩) 64 64)) w') : wpList Tryz.prog ops Q (o :: rest) a w :=
  wpList_plain hgd fun K hK => by
    obtain ⟨i, hi, hz, hs, hb⟩ := infoI'
    have hrun := run_makeSlice (P := Tryz.prog) w 29 3 i (.int .i64 0) Tryz.underlying29 hi hz .i64 .i64 64 64 (by omega) (by omega) (by rw [hs]; omega) (by rw [hb]; omega) (by omega)
    unfold Oper.wp execOp
    simp [ho, hx, hy, hrun, Result.andThen]
    refine hK _ _ (h _ _ (Nat.le_refl _) ⟨_, heap_alloc_new w _, ?_, ?_⟩ ((Fr.refl _ _).alloc _))
    · rw [size_madeCells, hs]
    · intro v hv
      simp only [madeCells, Array.toList_map, List.mem_map] at hv
      obtain ⟨j, -, rfl⟩ := hv
      show (#[Value.int .i64 0][j % 1]!).oneCell' = true
      rw [Nat.mod_one]
      rfl
end
end Go.Proofs.YtdfgmdddnehocabGreatDoor.Ab
