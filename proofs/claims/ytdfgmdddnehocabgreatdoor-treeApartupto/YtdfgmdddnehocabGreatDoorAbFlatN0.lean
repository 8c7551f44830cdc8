/-
  Rows of nodes that lie apart: laws for what is done to them.
-/
import Derived.Test.YtdfgmdddnehocabGreatDoorAbFlat
import Derived.Deep.AppendLies
import Derived.Laws.MakeOwn
import Derived.Laws.StructEq
import Derived.Laws.OwnMore
namespace Go.Proofs.YtdfgmdddnehocabGreatDoor.Ab
open Go.RowKit Go.Maps

theorem mark_anyN (w : World) (k i : Int) (hk0 : 0 ≤ k) (hk1 : k ≤ 600) (hi0 : 0 ≤ i) (hi1 : i ≤ 1000000) :
    Calls Tryz.prog 62 #[.int .i64 k, .int .i64 i] w fun e w' => e = .returned (.int .i64 (1000003 * (k + 7) + i)) ∧ w' = w := by
  go_enter Tryz.func62, Tryz.ntmps62
  go_wp2
  go_ret
  exact ⟨rfl, rfl⟩
theorem own_keptN {w w' : World} {B : Nat} {e : TypeId} {v : Value} {n : Nat} {xs : List Value} {L : List Nat} (h : w.ownsRow B e 1 v n xs) (k : Fr L w w') (hL : ∀ g, v.ownBlock = some g → g ∉ L) : w'.ownsRow B e 1 v n xs := by
  obtain ⟨h1, h2⟩ := h
  refine ⟨h1, ?_⟩
  rcases h2 with hn | ⟨g, cap, cur, rfl, hb, hg, r⟩
  · exact Or.inl hn
  · exact Or.inr ⟨g, cap, cur, rfl, hb, k.same (hL g rfl) hg, r⟩
theorem fr_grownN {w w' : World} {row : Option Nat} (k : w.grownBy w' row) : Fr row.toList w w' := (Fr.refl _ _).grown k (fun j e _ => by simp [e])
theorem infoNd : ∃ i, Tryz.prog.info? 62 = some i ∧ i.zero = some (.agg #[.int .u8 0, .string ⟨#[]⟩, .string ⟨#[]⟩, .int .i64 0]) ∧ i.size = 4 ∧ i.bytes = 48 := by
  have h : (Tryz.prog.info? 62).map (fun i => (i.zero, i.size, i.bytes)) = some (some (.agg #[.int .u8 0, .string ⟨#[]⟩, .string ⟨#[]⟩, .int .i64 0]), 4, 48) := by kernel_rfl
  cases hi : Tryz.prog.info? 62 with
  | none => rw [hi] at h; cases h
  | some i =>
    rw [hi] at h
    simp at h
    exact ⟨i, rfl, h.1, h.2.1, h.2.2⟩
theorem sizeNd : (Tryz.prog.info? 62).map (·.size) = some 4 := by kernel_rfl
theorem infoLNd : ∃ i, Tryz.prog.info? 22 = some i ∧ i.zero = some (.slice none 0 0) ∧ i.size = 1 ∧ i.bytes = 24 := by
  have h : (Tryz.prog.info? 22).map (fun i => (i.zero, i.size, i.bytes)) = some (some (.slice none 0 0), 1, 24) := by kernel_rfl
  cases hi : Tryz.prog.info? 22 with
  | none => rw [hi] at h; cases h
  | some i =>
    rw [hi] at h
    simp at h
    exact ⟨i, rfl, h.1, h.2.1, h.2.2⟩

/-! ### marksN -/
def mIN (k i : Int) : Int := 1000003 * (k + 7) + i
/-- The mark of a place in a row of nodes, as a value's cells. -/
def msAN (k i : Int) : Array Value := #[.int .u8 0, .string ⟨#[]⟩, .string ⟨#[]⟩, .int .i64 (mIN k i)]
def mvsN (k i : Nat) : List Value := [.int .u8 0, .string ⟨#[]⟩, .string ⟨#[]⟩, .int .i64 (mIN (k : Int) (i : Int))]
def marksN (k m : Nat) : List Value := (List.range m).flatMap (mvsN k)
theorem marksN_length (k m : Nat) : (marksN k m).length = m * 4 := by
  induction m with
  | zero => rfl
  | succ m ih => rw [marksN, List.range_succ, List.flatMap_append, List.length_append]; rw [marksN] at ih; rw [ih]; simp [mvsN]; omega
theorem marksN_succ (k m : Nat) : marksN k (m + 1) = marksN k m ++ mvsN k m := by simp [marksN, List.range_succ]
theorem marksN_at (k m i c : Nat) (h : i < m) (hc : c < 4) : (marksN k m)[i * 4 + c]? = (mvsN k i)[c]? := by
  induction m with
  | zero => omega
  | succ m ih =>
    rw [marksN_succ]
    by_cases e : i < m
    · rw [List.getElem?_append_left (by rw [marksN_length]; omega), ih e]
    · obtain rfl : i = m := by omega
      rw [List.getElem?_append_right (by rw [marksN_length]; omega), marksN_length, show i * 4 + c - i * 4 = c by omega]
theorem marksN_eq {k m : Nat} {xs : List Value} (hl : xs.length = m * 4) (h : ∀ i, i < m → ∀ c, c < 4 → xs[i * 4 + c]? = (mvsN k i)[c]?) : xs = marksN k m := by
  apply List.ext_getElem?
  intro i
  by_cases hi : i < m * 4
  · have h1 := h (i / 4) (by omega) (i % 4) (by omega)
    have h2 := marksN_at k m (i / 4) (i % 4) (by omega) (by omega)
    rw [show i / 4 * 4 + i % 4 = i by omega] at h1 h2
    rw [h1, h2]
  · rw [List.getElem?_eq_none (by omega), List.getElem?_eq_none (by rw [marksN_length]; omega)]
theorem mvsN_one (k i : Nat) : ∀ u ∈ mvsN k i, u.oneCell' = true := by
  intro u hu
  simp [mvsN] at hu
  rcases hu with rfl | rfl | rfl <;> rfl

set_option maxHeartbeats 400000 in
set_option maxRecDepth 100000 in
theorem markNode_any (w : World) (k i : Int) (hk0 : 0 ≤ k) (hk1 : k ≤ 600) (hi0 : 0 ≤ i) (hi1 : i ≤ 1000000) :
    Calls Tryz.prog 65 #[.int .i64 k, .int .i64 i] w fun e w' => e = .returned (.agg #[.int .u8 0, .string ⟨#[]⟩, .string ⟨#[]⟩, .int .i64 (mIN k i)]) ∧ Fr [] w w' := by
  go_enter Tryz.func65, Tryz.ntmps65
  go_wp2_with (go_at_call 62; refine (mark_anyN _ k i hk0 hk1 hi0 hi1).mono ?_; rintro e w ⟨rfl, rfl⟩)
  refine bodyPost_ret (results_cell_row rfl _ _ _ _ _ _ _ rfl (heap_alloc_new _ _) Tryz.underlying62 rfl (by rw [sizeNd]; rfl)) rfl ⟨rfl, (Fr.refl [] _).alloc _⟩

theorem eqlN (x : Int) (w : World) : (binOp .eql 62 (.agg #[.int .u8 0, .string ⟨#[]⟩, .string ⟨#[]⟩, .int .i64 x]) (.agg #[.int .u8 0, .string ⟨#[]⟩, .string ⟨#[]⟩, .int .i64 x])).run Tryz.prog w = .ok (.bool true) w := by
  go_simp
theorem eqlY (a : Act) (o : Oper) (x y : Operand) (ty : TypeId) (z : Int) (ho : o.op = .binOp .eql 62 x y ty) (hx : a.eval x = .agg #[.int .u8 0, .string ⟨#[]⟩, .string ⟨#[]⟩, .int .i64 z]) (hy : a.eval y = .agg #[.int .u8 0, .string ⟨#[]⟩, .string ⟨#[]⟩, .int .i64 z]) (w : World) : (execOp a.eval o).run Tryz.prog w = .ok (.value (.bool true)) w := by
  unfold execOp
  simp only [ho, hx, hy, Sem.run_bind, Sem.run_pure]
  rw [run_eqGuard_agg w _ _ _ _ _ _ Tryz.eqGuardType62]
  simp only [Result.andThen_ok, eqlN]
/-! ### rows of nodes that are owned -/
abbrev OwnN (w : World) (v : Value) (n : Nat) (xs : List Value) : Prop := w.ownsRow 0 62 4 v n xs
theorem ownN_kept {w w' : World} {v : Value} {n : Nat} {xs : List Value} {L : List Nat} (h : OwnN w v n xs) (k : Fr L w w') (hL : ∀ g, v.ownBlock = some g → g ∉ L) : OwnN w' v n xs := by
  obtain ⟨h1, h2⟩ := h
  refine ⟨h1, ?_⟩
  rcases h2 with hn | ⟨g, cap, cur, rfl, hb, hg, r⟩
  · exact Or.inl hn
  · exact Or.inr ⟨g, cap, cur, rfl, hb, k.same (hL g rfl) hg, r⟩
theorem ownN_cell {w : World} {ad : Option Addr} {n cap : Nat} {xs : List Value} (h : OwnN w (.slice ad n cap) n xs) (i : Nat) (hi : i < n) :
    ∃ g, ad = some ⟨g, 0, none⟩ ∧ (∀ c v, c < 4 → xs[i * 4 + c]? = some v → w.cell? ⟨g, i * 4 + c, none⟩ = some v) ∧ (∀ c, c < 4 → ∃ v, w.cell? ⟨g, i * 4 + c, none⟩ = some v) ∧ (∀ j, w.frozen? ⟨g, j, none⟩ = false) ∧ g < w.heap.size := by
  obtain ⟨h1, h2⟩ := h
  rcases h2 with ⟨e, e2⟩ | ⟨g, c, cur, e, _, hg, hnc, _, hcs, ht⟩
  · omega
  · cases e
    have key : ∀ c v, c < 4 → xs[i * 4 + c]? = some v → w.cell? ⟨g, i * 4 + c, none⟩ = some v := by
      intro c v hc hv
      rw [cell_of_row w g _ _ _ _ hg, ← hv, ← ht, List.getElem?_take, if_pos (by omega)]
      simp
    refine ⟨g, rfl, key, fun c hc => ?_, fun j => frozen_of_row w g j _ _ hg, (Array.getElem?_eq_some_iff.1 hg).1⟩
    have hx : i * 4 + c < xs.length := by omega
    exact ⟨_, key c _ hc (List.getElem?_eq_getElem hx)⟩
theorem ownN_set {w : World} {g n cap : Nat} {xs : List Value} (h : OwnN w (.slice (some ⟨g, 0, none⟩) n cap) n xs) (i : Nat) (a b c d : Value) :
    OwnN ((((w.setCell ⟨g, i * 4, none⟩ a).setCell ⟨g, i * 4 + 1, none⟩ b).setCell ⟨g, i * 4 + 2, none⟩ c).setCell ⟨g, i * 4 + 3, none⟩ d) (.slice (some ⟨g, 0, none⟩) n cap) n ((((xs.set (i * 4) a).set (i * 4 + 1) b).set (i * 4 + 2) c).set (i * 4 + 3) d) :=
  (((((h.stored _ a).1).stored _ b).1.stored _ c).1.stored _ d).1
theorem fr_set4N (w : World) (g i : Nat) (a b c d : Value) : Fr [g] w ((((w.setCell ⟨g, i * 4, none⟩ a).setCell ⟨g, i * 4 + 1, none⟩ b).setCell ⟨g, i * 4 + 2, none⟩ c).setCell ⟨g, i * 4 + 3, none⟩ d) :=
  ((((Fr.refl [g] w).setCell _ _ (fun _ => by simp)).setCell _ _ (fun _ => by simp)).setCell _ _ (fun _ => by simp)).setCell _ _ (fun _ => by simp)
theorem ownN_lt {w : World} {v : Value} {n : Nat} {xs : List Value} (h : OwnN w v n xs) (g : Nat) (hg : v.ownBlock = some g) : g < w.heap.size := (h.lt g hg).2

/-- append, and what all other rows hold behind it. -/
theorem run_appN (w : World) (ty : TypeId) (v : Value) (m : Nat) (xs : List Value) (hown : OwnN w v m xs) (ad : Addr) (k c : Nat) (news : List Value) (hl : news.length = k * 4) (hnews : ∀ j u, news[j]? = some u → w.cell? (ad.add j) = some u) (h1 : ∀ u ∈ news, u.oneCell' = true) (hk : 0 < k) (hm : m + k ≤ 1000000) :
    ∃ g cap w', (Builtin.append_ #[22, 22] ty #[v, .slice (some ad) k c]).run Tryz.prog w = .ok (.slice (some ⟨g, 0, none⟩) (m + k) cap) w' ∧ OwnN w' (.slice (some ⟨g, 0, none⟩) (m + k) cap) (m + k) (xs ++ news) ∧ Fr v.ownBlock.toList w w' ∧ (v.ownBlock = some g ∨ g = w.heap.size) ∧ g < w'.heap.size ∧
      (∀ u p ys, OwnN w u p ys → (u.ownBlock = v.ownBlock → p ≤ m) → OwnN w' u p ys) := by
  obtain ⟨i, hi, hz, hsz, hb⟩ := infoNd
  obtain ⟨g, cap, w', hrun, h2, h3, h5, h6⟩ := run_append_lies (P := Tryz.prog) w 22 ty 0 62 i _ 4 48 Tryz.underlying22 hi hz hsz hb rfl (by omega) v m xs hown ad k c news (by omega) hnews h1 hk (by unfold maxLen; omega) (by omega) (Nat.zero_le _) _ rfl
  refine ⟨g, cap, w', hrun, h2, fr_grownN h3, h5, h6, ?_⟩
  intro u p ys hu hle
  rcases hown.2 with ⟨rfl, rfl⟩ | ⟨g0, cap0, cur, rfl, hbg, hg, hnc, hcm, hcs, htake⟩
  · exact ownN_kept hu (fr_grownN h3) (by simp [Value.ownBlock])
  · by_cases hroom : m + k ≤ cap0
    · have hr := run_append_room (P := Tryz.prog) w 22 ty 62 i Tryz.underlying22 hi g0 m cap0 cur hg ad k c news (by rw [hsz]; omega) hnews h1 hroom (by rw [hsz]; omega)
      rw [hr] at hrun
      injection hrun with _ hw
      subst hw
      obtain ⟨u1, u2⟩ := hu
      refine ⟨u1, ?_⟩
      rcases u2 with hn | ⟨gu, capu, curu, rfl, hbu, hgu, hnu, hcu, hsu, htu⟩
      · exact Or.inl hn
      · by_cases e : gu = g0
        · subst e
          have hp := hle rfl
          rw [hg] at hgu
          cases hgu
          refine Or.inr ⟨gu, capu, _, rfl, hbu, setRow_heap w gu _ _ 62 _ hg, hnu, hcu, ?_, ?_⟩
          · simp [hsz]; omega
          · rw [← htu]
            simp only [List.append_assoc]
            rw [List.take_append_of_le_length (by simp [hsz]; omega), List.take_take]
            rw [hsz, Nat.min_eq_left (by omega)]
        · exact Or.inr ⟨gu, capu, curu, rfl, hbu, by rw [setRow_other w g0 gu _ (fun e2 => e e2)]; exact hgu, hnu, hcu, hsu, htu⟩
    · have holds : ∀ j u, xs[j]? = some u → w.cell? ((⟨g0, 0, none⟩ : Addr).add j) = some u := hown.cells (g := g0) rfl
      have hr := run_append_grow (P := Tryz.prog) w 22 ty 62 i _ Tryz.underlying22 hi hz ⟨g0, 0, none⟩ m cap0 xs (by rw [hsz]; exact hown.1) holds ad k c news (by rw [hsz]; omega) hnews (by omega) (by omega) (growslice_fits (by omega) (by rw [hb]; omega))
      rw [hr] at hrun
      injection hrun with _ hw
      subst hw
      exact ownN_kept (L := []) hu ((Fr.refl _ _).drew.alloc _) (by simp)

section
variable {ops : Array Oper} {rest : List Oper} {o : Oper} {a : Act} {w : World} {Q : Exit → Act → World → Prop}
theorem wp_appNd (hgd : o.guard = none) (s x : Operand) (ho : o.op = .call { callee := .builtin .append, args := #[s, x], argTypes := #[22, 22] }) (v : Value) (m : Nat) (xs : List Value) (hs : a.eval s = v) (hown : OwnN w v m xs)
    (b k c : Nat) (news : List Value) (hl : news.length = k * 4) (hx : a.eval x = .slice (some ⟨b, 0, none⟩) k c) (hnews : ∀ j u, news[j]? = some u → w.cell? ⟨b, j, none⟩ = some u) (h1 : ∀ u ∈ news, u.oneCell' = true) (hk : 0 < k) (hm : m + k ≤ 1000000)
    (h : ∀ g cap w', OwnN w' (.slice (some ⟨g, 0, none⟩) (m + k) cap) (m + k) (xs ++ news) → Fr v.ownBlock.toList w w' → (v.ownBlock = some g ∨ g = w.heap.size) → g < w'.heap.size → (∀ u p ys, OwnN w u p ys → (u.ownBlock = v.ownBlock → p ≤ m) → OwnN w' u p ys) → wpList Tryz.prog ops Q rest (a.put o.dst (.slice (some ⟨g, 0, none⟩) (m + k) cap)) w') : wpList Tryz.prog ops Q (o :: rest) a w :=
  wpList_plain hgd fun K hK => by
    obtain ⟨g, cap, w', hrun, h2, h3, h5, h6, h7⟩ := run_appN w o.type v m xs hown ⟨b, 0, none⟩ k c news hl (by intro j u hu; rw [Addr.add_mid]; simpa using hnews j u hu) h1 hk hm
    unfold Oper.wp execOp
    simp [ho, resolve, invoke, builtin, hs, hx, hrun, Result.andThen]
    exact hK _ _ (h _ _ _ h2 h3 h5 h6 h7)
theorem wp_makeLN (hgd : o.guard = none) (x y : Operand) (ho : o.op = .makeSlice 27 x y) (n : Nat) (hx : a.eval x = .int .i64 (n : Int)) (hy : a.eval y = .int .i64 (n : Int)) (hn : n ≤ 100000)
    (h : ∀ w' gv, w'.heap[w.heap.size]? = some (.cells gv 22) → gv.size = n → Fr [] w w' → wpList Tryz.prog ops Q rest (a.put o.dst (.slice (some ⟨w.heap.size, 0, none⟩) n n)) w') : wpList Tryz.prog ops Q (o :: rest) a w :=
  wpList_plain hgd fun K hK => by
    obtain ⟨i, hi, hz, hs, hb⟩ := infoLNd
    have hrun := run_makeSlice (P := Tryz.prog) w 27 22 i (.slice none 0 0) Tryz.underlying27 hi hz .i64 .i64 (n : Int) (n : Int) (by omega) (by omega) (by rw [hs]; omega) (by rw [hb]; omega) (by omega)
    rw [hs, Int.toNat_natCast, Nat.mul_one] at hrun
    unfold Oper.wp execOp
    simp [ho, hx, hy, hrun, Result.andThen]
    exact hK _ _ (h _ _ (heap_alloc_new w _) (by simp [madeCells]) ((Fr.refl _ _).alloc _))
/-- A block of 64 nodes. -/
def ManyN (w : World) (b : Nat) : Prop := ∃ cur : Array Value, w.heap[b]? = some (.cells cur 62) ∧ cur.size = 256 ∧ ∀ v ∈ cur.toList, v.oneCell' = true
theorem wp_makeN (hgd : o.guard = none) (x y : Operand) (ho : o.op = .makeSlice 22 x y) (hx : a.eval x = .int .i64 64) (hy : a.eval y = .int .i64 64)
    (h : ∀ w', ManyN w' w.heap.size → Fr [] w w' → wpList Tryz.prog ops Q rest (a.put o.dst (.slice (some ⟨w.heap.size, 0, none⟩) 64 64)) w') : wpList Tryz.prog ops Q (o :: rest) a w :=
  wpList_plain hgd fun K hK => by
    obtain ⟨i, hi, hz, hs, hb⟩ := infoNd
    have hrun := run_makeSlice (P := Tryz.prog) w 22 62 i _ Tryz.underlying22 hi hz .i64 .i64 64 64 (by omega) (by omega) (by rw [hs]; omega) (by rw [hb]; omega) (by omega)
    unfold Oper.wp execOp
    simp [ho, hx, hy, hrun, Result.andThen]
    refine hK _ _ (h _ ⟨_, heap_alloc_new w _, ?_, ?_⟩ ((Fr.refl _ _).alloc _))
    · rw [size_madeCells, hs]
    · intro v hv
      simp only [madeCells, Array.toList_map, List.mem_map] at hv
      obtain ⟨j, -, rfl⟩ := hv
      show (#[Value.int .u8 0, Value.string ⟨#[]⟩, Value.string ⟨#[]⟩, Value.int .i64 0][j % 4]!).oneCell' = true
      rcases (by omega : j % 4 = 0 ∨ j % 4 = 1 ∨ j % 4 = 2 ∨ j % 4 = 3) with e | e | e | e <;> (rw [e]; rfl)
end
end Go.Proofs.YtdfgmdddnehocabGreatDoor.Ab
