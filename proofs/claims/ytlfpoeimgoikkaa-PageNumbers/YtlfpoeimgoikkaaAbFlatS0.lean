/-
  Rows of spans that lie apart: laws for what is done to them.
-/
import Derived.Test.YtlfpoeimgoikkaaAbFlatB
import Derived.Laws.OwnMore
namespace Go.Proofs.Ytlfpoeimgoikkaa.Ab
open Go.RowKit Go.Maps

theorem infoS : ∃ i, Try.prog.info? 52 = some i ∧ i.zero = some (.agg #[.int .i64 0, .int .i64 0, .slice none 0 0, .slice none 0 0]) ∧ i.size = 4 ∧ i.bytes = 64 := by
  have h : (Try.prog.info? 52).map (fun i => (i.zero, i.size, i.bytes)) = some (some (.agg #[.int .i64 0, .int .i64 0, .slice none 0 0, .slice none 0 0]), 4, 64) := by kernel_rfl
  cases hi : Try.prog.info? 52 with
  | none => rw [hi] at h; cases h
  | some i =>
    rw [hi] at h
    simp at h
    exact ⟨i, rfl, h.1, h.2.1, h.2.2⟩
theorem sizeS : (Try.prog.info? 52).map (·.size) = some 4 := by kernel_rfl
theorem infoLS : ∃ i, Try.prog.info? 37 = some i ∧ i.zero = some (.slice none 0 0) ∧ i.size = 1 ∧ i.bytes = 24 := by
  have h : (Try.prog.info? 37).map (fun i => (i.zero, i.size, i.bytes)) = some (some (.slice none 0 0), 1, 24) := by kernel_rfl
  cases hi : Try.prog.info? 37 with
  | none => rw [hi] at h; cases h
  | some i =>
    rw [hi] at h
    simp at h
    exact ⟨i, rfl, h.1, h.2.1, h.2.2⟩

/-! ### marks -/
def mI (k i : Int) : Int := 1000003 * (k + 7) + i
/-- The mark of a place in a row of spans, as a value's cells. -/
def msA (k i : Int) : Array Value := #[.int .i64 (mI k i), .int .i64 0, .slice none 0 0, .slice none 0 0]
def mvs (k i : Nat) : List Value := [.int .i64 (mI (k : Int) (i : Int)), .int .i64 0, .slice none 0 0, .slice none 0 0]
def marksS (k m : Nat) : List Value := (List.range m).flatMap (mvs k)
theorem marksS_length (k m : Nat) : (marksS k m).length = m * 4 := by
  induction m with
  | zero => rfl
  | succ m ih => rw [marksS, List.range_succ, List.flatMap_append, List.length_append]; rw [marksS] at ih; rw [ih]; simp [mvs]; omega
theorem marksS_succ (k m : Nat) : marksS k (m + 1) = marksS k m ++ mvs k m := by simp [marksS, List.range_succ]
theorem marksS_at (k m i c : Nat) (h : i < m) (hc : c < 4) : (marksS k m)[i * 4 + c]? = (mvs k i)[c]? := by
  induction m with
  | zero => omega
  | succ m ih =>
    rw [marksS_succ]
    by_cases e : i < m
    · rw [List.getElem?_append_left (by rw [marksS_length]; omega), ih e]
    · obtain rfl : i = m := by omega
      rw [List.getElem?_append_right (by rw [marksS_length]; omega), marksS_length, show i * 4 + c - i * 4 = c by omega]
theorem marksS_eq {k m : Nat} {xs : List Value} (hl : xs.length = m * 4) (h : ∀ i, i < m → ∀ c, c < 4 → xs[i * 4 + c]? = (mvs k i)[c]?) : xs = marksS k m := by
  apply List.ext_getElem?
  intro i
  by_cases hi : i < m * 4
  · have h1 := h (i / 4) (by omega) (i % 4) (by omega)
    have h2 := marksS_at k m (i / 4) (i % 4) (by omega) (by omega)
    rw [show i / 4 * 4 + i % 4 = i by omega] at h1 h2
    rw [h1, h2]
  · rw [List.getElem?_eq_none (by omega), List.getElem?_eq_none (by rw [marksS_length]; omega)]
theorem mvs_one (k i : Nat) : ∀ u ∈ mvs k i, u.oneCell' = true := by
  intro u hu
  simp [mvs] at hu
  rcases hu with rfl | rfl | rfl <;> rfl

set_option maxHeartbeats 400000 in
set_option maxRecDepth 100000 in
theorem markSpan_any (w : World) (k i : Int) (hk0 : 0 ≤ k) (hk1 : k ≤ 600) (hi0 : 0 ≤ i) (hi1 : i ≤ 1000000) :
    Calls Try.prog 81 #[.int .i64 k, .int .i64 i] w fun e w' => e = .returned (.agg #[.int .i64 (mI k i), .int .i64 0, .slice none 0 0, .slice none 0 0]) ∧ Fr [] w w' := by
  go_enter Try.func81, Try.ntmps81
  go_wp2_with (go_at_call 56; refine (mark_any _ k i hk0 hk1 hi0 hi1).mono ?_; rintro e w ⟨rfl, rfl⟩)
  refine bodyPost_ret (results_cell_row rfl _ _ _ _ _ _ _ rfl (heap_alloc_new _ _) Try.underlying52 rfl (by rw [sizeS]; rfl)) rfl ⟨rfl, (Fr.refl [] _).alloc _⟩

set_option maxHeartbeats 400000 in
set_option maxRecDepth 100000 in
theorem sameNil (w : World) : Calls Try.prog 33 #[.slice none 0 0, .slice none 0 0] w fun e w' => e = .returned (.bool true) ∧ w' = w := by
  go_enter Try.func33, Try.ntmps33
  go_wp2_with fail
  go_loopw [5] (fun iv wr => iv = .int .i64 0 ∧ wr = w) (fun _ _ => 0)
  case atStart => exact ⟨rfl, rfl⟩
  case round =>
    obtain ⟨rfl, rfl⟩ := hrel
    go_wp2_with fail
    go_ret
    exact ⟨rfl, rfl⟩

set_option maxHeartbeats 400000 in
set_option maxRecDepth 100000 in
theorem sameMark (w : World) (x : Int) : Calls Try.prog 51 #[.agg #[.int .i64 x, .int .i64 0, .slice none 0 0, .slice none 0 0], .agg #[.int .i64 x, .int .i64 0, .slice none 0 0, .slice none 0 0]] w fun e w' => e = .returned (.bool true) ∧ Fr [] w w' := by
  have HN : Hid (∀ w, Calls Try.prog 33 #[.slice none 0 0, .slice none 0 0] w fun e w' => e = .returned (.bool true) ∧ w' = w) := sameNil
  go_enter Try.func51, Try.ntmps51
  go_wp2_with (go_at_call 33; refine (HN.out _).mono ?_; rintro e w5 ⟨rfl, hw5⟩; rw [hw5]; clear hw5)
  go_ret
  exact ⟨rfl, ((Fr.refl [] _).alloc _).alloc _⟩

/-! ### rows of spans that are owned -/
abbrev OwnS (w : World) (v : Value) (n : Nat) (xs : List Value) : Prop := w.ownsRow 0 52 4 v n xs
theorem ownS_kept {w w' : World} {v : Value} {n : Nat} {xs : List Value} {L : List Nat} (h : OwnS w v n xs) (k : Fr L w w') (hL : ∀ g, v.ownBlock = some g → g ∉ L) : OwnS w' v n xs := by
  obtain ⟨h1, h2⟩ := h
  refine ⟨h1, ?_⟩
  rcases h2 with hn | ⟨g, cap, cur, rfl, hb, hg, r⟩
  · exact Or.inl hn
  · exact Or.inr ⟨g, cap, cur, rfl, hb, k.same (hL g rfl) hg, r⟩
theorem ownS_cell {w : World} {ad : Option Addr} {n cap : Nat} {xs : List Value} (h : OwnS w (.slice ad n cap) n xs) (i : Nat) (hi : i < n) :
    ∃ g, ad = some ⟨g, 0, none⟩ ∧ (∀ c v, c < 4 → xs[i * 4 + c]? = some v → w.cell? ⟨g, i * 4 + c, none⟩ = some v) ∧ (∀ c, c < 4 → ∃ v, w.cell? ⟨g, i * 4 + c, none⟩ = some v) ∧ (∀ j, w.frozen? ⟨g, j, none⟩ = false) ∧ g < w.heap.size := by
  obtain ⟨h1, h2⟩ := h
  rcases h2 with ⟨e, e2⟩ | ⟨g, c, cur, e, _, hg, hnc, _, hcs, ht⟩
  · omega
  · cases e
    have key : ∀ c v, c < 4 → xs[i * 4 + c]? = some v → w.cell? ⟨g, i * 4 + c, none⟩ = some v := by
      intro c v hc hv
      rw [cell_of_row w g _ _ _ _ hg, ← hv, ← ht, List.getElem?_take, if_pos (by omega)]
      simp
    refine ⟨g, rfl, key, fun c hc => ?_, fun j => frozen_of_row w g j _ _ hg, (Array.getElem?_eq_some_iff.1 hg).1⟩
    have hx : i * 4 + c < xs.length := by omega
    exact ⟨_, key c _ hc (List.getElem?_eq_getElem hx)⟩
theorem ownS_set {w : World} {g n cap : Nat} {xs : List Value} (h : OwnS w (.slice (some ⟨g, 0, none⟩) n cap) n xs) (i : Nat) (a b c d : Value) :
    OwnS ((((w.setCell ⟨g, i * 4, none⟩ a).setCell ⟨g, i * 4 + 1, none⟩ b).setCell ⟨g, i * 4 + 2, none⟩ c).setCell ⟨g, i * 4 + 3, none⟩ d) (.slice (some ⟨g, 0, none⟩) n cap) n ((((xs.set (i * 4) a).set (i * 4 + 1) b).set (i * 4 + 2) c).set (i * 4 + 3) d) :=
  (((((h.stored _ a).1).stored _ b).1.stored _ c).1.stored _ d).1
theorem fr_set4 (w : World) (g i : Nat) (a b c d : Value) : Fr [g] w ((((w.setCell ⟨g, i * 4, none⟩ a).setCell ⟨g, i * 4 + 1, none⟩ b).setCell ⟨g, i * 4 + 2, none⟩ c).setCell ⟨g, i * 4 + 3, none⟩ d) :=
  ((((Fr.refl [g] w).setCell _ _ (fun _ => by simp)).setCell _ _ (fun _ => by simp)).setCell _ _ (fun _ => by simp)).setCell _ _ (fun _ => by simp)
theorem ownS_lt {w : World} {v : Value} {n : Nat} {xs : List Value} (h : OwnS w v n xs) (g : Nat) (hg : v.ownBlock = some g) : g < w.heap.size := (h.lt g hg).2

/-- append, and what all other rows hold behind it. -/
theorem run_appS (w : World) (ty : TypeId) (v : Value) (m : Nat) (xs : List Value) (hown : OwnS w v m xs) (ad : Addr) (k c : Nat) (news : List Value) (hl : news.length = k * 4) (hnews : ∀ j u, news[j]? = some u → w.cell? (ad.add j) = some u) (h1 : ∀ u ∈ news, u.oneCell' = true) (hk : 0 < k) (hm : m + k ≤ 1000000) :
    ∃ g cap w', (Builtin.append_ #[37, 37] ty #[v, .slice (some ad) k c]).run Try.prog w = .ok (.slice (some ⟨g, 0, none⟩) (m + k) cap) w' ∧ OwnS w' (.slice (some ⟨g, 0, none⟩) (m + k) cap) (m + k) (xs ++ news) ∧ Fr v.ownBlock.toList w w' ∧ (v.ownBlock = some g ∨ g = w.heap.size) ∧ g < w'.heap.size ∧
      (∀ u p ys, OwnS w u p ys → (u.ownBlock = v.ownBlock → p ≤ m) → OwnS w' u p ys) := by
  obtain ⟨i, hi, hz, hsz, hb⟩ := infoS
  obtain ⟨g, cap, w', hrun, h2, h3, h5, h6⟩ := run_append_lies (P := Try.prog) w 37 ty 0 52 i _ 4 64 Try.underlying37 hi hz hsz hb rfl (by omega) v m xs hown ad k c news (by omega) hnews h1 hk (by unfold maxLen; omega) (by omega) (Nat.zero_le _) _ rfl
  refine ⟨g, cap, w', hrun, h2, fr_grown h3, h5, h6, ?_⟩
  intro u p ys hu hle
  rcases hown.2 with ⟨rfl, rfl⟩ | ⟨g0, cap0, cur, rfl, hbg, hg, hnc, hcm, hcs, htake⟩
  · exact ownS_kept hu (fr_grown h3) (by simp [Value.ownBlock])
  · by_cases hroom : m + k ≤ cap0
    · have hr := run_append_room (P := Try.prog) w 37 ty 52 i Try.underlying37 hi g0 m cap0 cur hg ad k c news (by rw [hsz]; omega) hnews h1 hroom (by rw [hsz]; omega)
      rw [hr] at hrun
      injection hrun with _ hw
      subst hw
      obtain ⟨u1, u2⟩ := hu
      refine ⟨u1, ?_⟩
      rcases u2 with hn | ⟨gu, capu, curu, rfl, hbu, hgu, hnu, hcu, hsu, htu⟩
      · exact Or.inl hn
      · by_cases e : gu = g0
        · subst e
          have hp := hle rfl
          rw [hg] at hgu
          cases hgu
          refine Or.inr ⟨gu, capu, _, rfl, hbu, setRow_heap w gu _ _ 52 _ hg, hnu, hcu, ?_, ?_⟩
          · simp [hsz]; omega
          · rw [← htu]
            simp only [List.append_assoc]
            rw [List.take_append_of_le_length (by simp [hsz]; omega), List.take_take]
            rw [hsz, Nat.min_eq_left (by omega)]
        · exact Or.inr ⟨gu, capu, curu, rfl, hbu, by rw [setRow_other w g0 gu _ (fun e2 => e e2)]; exact hgu, hnu, hcu, hsu, htu⟩
    · have holds : ∀ j u, xs[j]? = some u → w.cell? ((⟨g0, 0, none⟩ : Addr).add j) = some u := hown.cells (g := g0) rfl
      have hr := run_append_grow (P := Try.prog) w 37 ty 52 i _ Try.underlying37 hi hz ⟨g0, 0, none⟩ m cap0 xs (by rw [hsz]; exact hown.1) holds ad k c news (by rw [hsz]; omega) hnews (by omega) (by omega) (growslice_fits (by omega) (by rw [hb]; omega))
      rw [hr] at hrun
      injection hrun with _ hw
      subst hw
      exact ownS_kept (L := []) hu ((Fr.refl _ _).drew.alloc _) (by simp)

section
variable {ops : Array Oper} {rest : List Oper} {o : Oper} {a : Act} {w : World} {Q : Exit → Act → World → Prop}
theorem wp_appS (hgd : o.guard = none) (s x : Operand) (ho : o.op = .call { callee := .builtin .append, args := #[s, x], argTypes := #[37, 37] }) (v : Value) (m : Nat) (xs : List Value) (hs : a.eval s = v) (hown : OwnS w v m xs)
    (b k c : Nat) (news : List Value) (hl : news.length = k * 4) (hx : a.eval x = .slice (some ⟨b, 0, none⟩) k c) (hnews : ∀ j u, news[j]? = some u → w.cell? ⟨b, j, none⟩ = some u) (h1 : ∀ u ∈ news, u.oneCell' = true) (hk : 0 < k) (hm : m + k ≤ 1000000)
    (h : ∀ g cap w', OwnS w' (.slice (some ⟨g, 0, none⟩) (m + k) cap) (m + k) (xs ++ news) → Fr v.ownBlock.toList w w' → (v.ownBlock = some g ∨ g = w.heap.size) → g < w'.heap.size → (∀ u p ys, OwnS w u p ys → (u.ownBlock = v.ownBlock → p ≤ m) → OwnS w' u p ys) → wpList Try.prog ops Q rest (a.put o.dst (.slice (some ⟨g, 0, none⟩) (m + k) cap)) w') : wpList Try.prog ops Q (o :: rest) a w :=
  wpList_plain hgd fun K hK => by
    obtain ⟨g, cap, w', hrun, h2, h3, h5, h6, h7⟩ := run_appS w o.type v m xs hown ⟨b, 0, none⟩ k c news hl (by intro j u hu; rw [Addr.add_mid]; simpa using hnews j u hu) h1 hk hm
    unfold Oper.wp execOp
    simp [ho, resolve, invoke, builtin, hs, hx, hrun, Result.andThen]
    exact hK _ _ (h _ _ _ h2 h3 h5 h6 h7)
theorem wp_makeLS (hgd : o.guard = none) (x y : Operand) (ho : o.op = .makeSlice 42 x y) (n : Nat) (hx : a.eval x = .int .i64 (n : Int)) (hy : a.eval y = .int .i64 (n : Int)) (hn : n ≤ 100000)
    (h : ∀ w' gv, w'.heap[w.heap.size]? = some (.cells gv 37) → gv.size = n → Fr [] w w' → wpList Try.prog ops Q rest (a.put o.dst (.slice (some ⟨w.heap.size, 0, none⟩) n n)) w') : wpList Try.prog ops Q (o :: rest) a w :=
  wpList_plain hgd fun K hK => by
    obtain ⟨i, hi, hz, hs, hb⟩ := infoLS
    have hrun := run_makeSlice (P := Try.prog) w 42 37 i (.slice none 0 0) Try.underlying42 hi hz .i64 .i64 (n : Int) (n : Int) (by omega) (by omega) (by rw [hs]; omega) (by rw [hb]; omega) (by omega)
    rw [hs, Int.toNat_natCast, Nat.mul_one] at hrun
    unfold Oper.wp execOp
    simp [ho, hx, hy, hrun, Result.andThen]
    exact hK _ _ (h _ _ (heap_alloc_new w _) (by simp [madeCells]) ((Fr.refl _ _).alloc _))
/-- A block of 64 spans. -/
def ManyS (w : World) (b : Nat) : Prop := ∃ cur : Array Value, w.heap[b]? = some (.cells cur 52) ∧ cur.size = 256 ∧ ∀ v ∈ cur.toList, v.oneCell' = true
theorem wp_makeS (hgd : o.guard = none) (x y : Operand) (ho : o.op = .makeSlice 37 x y) (hx : a.eval x = .int .i64 64) (hy : a.eval y = .int .i64 64)
    (h : ∀ w', ManyS w' w.heap.size → Fr [] w w' → wpList Try.prog ops Q rest (a.put o.dst (.slice (some ⟨w.heap.size, 0, none⟩) 64 64)) w') : wpList Try.prog ops Q (o :: rest) a w :=
  wpList_plain hgd fun K hK => by
    obtain ⟨i, hi, hz, hs, hb⟩ := infoS
    have hrun := run_makeSlice (P := Try.prog) w 37 52 i _ Try.underlying37 hi hz .i64 .i64 64 64 (by omega) (by omega) (by rw [hs]; omega) (by rw [hb]; omega) (by omega)
    unfold Oper.wp execOp
    simp [ho, hx, hy, hrun, Result.andThen]
    refine hK _ _ (h _ ⟨_, heap_alloc_new w _, ?_, ?_⟩ ((Fr.refl _ _).alloc _))
    · rw [size_madeCells, hs]
    · intro v hv
      simp only [madeCells, Array.toList_map, List.mem_map] at hv
      obtain ⟨j, -, rfl⟩ := hv
      show (#[Value.int .i64 0, Value.int .i64 0, Value.slice none 0 0, Value.slice none 0 0][j % 4]!).oneCell' = true
      rcases (by omega : j % 4 = 0 ∨ j % 4 = 1 ∨ j % 4 = 2 ∨ j % 4 = 3) with e | e | e | e <;> (rw [e]; rfl)
end
end Go.Proofs.Ytlfpoeimgoikkaa.Ab
