/-
  The spans at which two pages differ: the program's Diff.
-/
import Derived.Test.YtlfpoeimgoikkaaGRefO
import Derived.Test.YtlfpoeimgoikkaaGDifM
namespace Go.Proofs.Ytlfpoeimgoikkaa
open Go.RowKit Go.Maps

theorem infoSp : ∃ i, Try.prog.info? 52 = some i ∧ i.zero = some (.agg #[.int .i64 0, .int .i64 0, .slice none 0 0, .slice none 0 0]) ∧ i.size = 4 ∧ i.bytes = 64 := by
  have h : (Try.prog.info? 52).map (fun i => (i.zero, i.size, i.bytes)) = some (some (.agg #[.int .i64 0, .int .i64 0, .slice none 0 0, .slice none 0 0]), 4, 64) := by kernel_rfl
  cases hi : Try.prog.info? 52 with
  | none => rw [hi] at h; cases h
  | some i =>
    rw [hi] at h
    simp at h
    exact ⟨i, rfl, h.1, h.2.1, h.2.2⟩

/-- A span that is put: where it is, how long, its two lists. -/
structure SpE where
  off : Nat
  n : Nat
  bo : Nat
  bn : Nat
def SpE.vals (e : SpE) : List Value := [.int .i64 0, .int .i64 (e.off : Int), .slice (some ⟨e.bo, 0, none⟩) e.n e.n, .slice (some ⟨e.bn, 0, none⟩) e.n e.n]
def spv (S : List SpE) : List Value := S.flatMap SpE.vals
theorem spv_length (S : List SpE) : (spv S).length = S.length * 4 := by
  induction S with
  | nil => rfl
  | cons e r ih => simp [spv, SpE.vals] at ih ⊢; omega
theorem spv_snoc (S : List SpE) (e : SpE) : spv (S ++ [e]) = spv S ++ e.vals := by simp [spv]
theorem spv_at (S : List SpE) (i : Nat) (h : i < S.length) (k : Nat) (hk : k < 4) : (spv S)[i * 4 + k]? = S[i].vals[k]? := by
  induction S generalizing i with
  | nil => simp at h
  | cons e r ih =>
    have hv : e.vals.length = 4 := rfl
    have he : spv (e :: r) = e.vals ++ spv r := by simp [spv]
    rw [he]
    cases i with
    | zero =>
      rw [List.getElem?_append_left (by omega)]
      simp
    | succ i =>
      rw [List.getElem?_append_right (by omega), hv, show (i + 1) * 4 + k - 4 = i * 4 + k by omega]
      exact ih i (by simpa using h)

/-- The lists' blocks rise, between two marks. -/
def blksOf (S : List SpE) : List Nat := S.flatMap fun e => [e.bo, e.bn]
def Rise (lo hi : Nat) (S : List SpE) : Prop := (blksOf S).Pairwise (· < ·) ∧ ∀ b ∈ blksOf S, lo ≤ b ∧ b < hi
theorem Rise.up {lo hi hi' : Nat} {S : List SpE} (h : Rise lo hi S) (hl : hi ≤ hi') : Rise lo hi' S := ⟨h.1, fun b hb => ⟨(h.2 b hb).1, Nat.lt_of_lt_of_le (h.2 b hb).2 hl⟩⟩
theorem Rise.snoc {lo hi hi' : Nat} {S : List SpE} {e : SpE} (h : Rise lo hi S) (h0 : lo ≤ hi) (h1 : hi ≤ e.bo) (h2 : e.bo < e.bn) (h3 : e.bn < hi') : Rise lo hi' (S ++ [e]) := by
  have hs : blksOf (S ++ [e]) = blksOf S ++ [e.bo, e.bn] := by simp [blksOf]
  unfold Rise
  rw [hs]
  refine ⟨List.pairwise_append.2 ⟨h.1, by simp [h2], fun a ha b hb => ?_⟩, fun b hb => ?_⟩
  · have := (h.2 a ha).2
    simp at hb
    rcases hb with rfl | rfl <;> omega
  · rcases List.mem_append.1 hb with hb | hb
    · have := h.2 b hb
      omega
    · simp at hb
      rcases hb with rfl | rfl <;> omega

structure DInv (w wr : World) (bs ba bb : Nat) (va vb : Value) (la lb : List UInt8) (AD : Option Addr) (N CAP : Nat) (S : List SpE) : Prop where
  cell : wr.heap[bs]? = some (.cells #[.slice AD N CAP] 37)
  boxa : wr.heap[ba]? = some (.cells #[va] 22)
  boxb : wr.heap[bb]? = some (.cells #[vb] 22)
  own : wr.ownsRow w.heap.size 52 4 (.slice AD N CAP) N (spv S)
  oks : ∀ e ∈ S, Blk wr e.bo ((la.drop e.off).take e.n) ∧ Blk wr e.bn ((lb.drop e.off).take e.n)
  fr : Fr [] w wr
  news : w.heap.size ≤ bs ∧ w.heap.size ≤ ba ∧ w.heap.size ≤ bb
  rise : Rise w.heap.size wr.heap.size S
theorem ownSp_kept {w wr wt : World} {v : Value} {n : Nat} {xs : List Value} {L : List Nat} (h : wr.ownsRow w.heap.size 52 4 v n xs) (k : Fr L wr wt) (hL : ∀ g, v.ownBlock = some g → g ∉ L) : wt.ownsRow w.heap.size 52 4 v n xs := by
  obtain ⟨h1, h2⟩ := h
  refine ⟨h1, ?_⟩
  rcases h2 with hn | ⟨g, cap, cur, rfl, hb, hg, r⟩
  · exact Or.inl hn
  · exact Or.inr ⟨g, cap, cur, rfl, hb, k.same (hL g rfl) hg, r⟩
theorem DInv.kept {w wr wt : World} {bs ba bb : Nat} {va vb : Value} {la lb : List UInt8} {AD : Option Addr} {N CAP : Nat} {S : List SpE} (h : DInv w wr bs ba bb va vb la lb AD N CAP S) (f : Fr [] wr wt) : DInv w wt bs ba bb va vb la lb AD N CAP S :=
  ⟨f.same (by simp) h.cell, f.same (by simp) h.boxa, f.same (by simp) h.boxb, ownSp_kept h.own f (by simp), fun e he => ⟨(h.oks e he).1.kept f (by simp), (h.oks e he).2.kept f (by simp)⟩, h.fr.trans f, h.news, h.rise.up f.size⟩
theorem DInv.len {w wr : World} {bs ba bb : Nat} {va vb : Value} {la lb : List UInt8} {AD : Option Addr} {N CAP : Nat} {S : List SpE} (h : DInv w wr bs ba bb va vb la lb AD N CAP S) : S.length = N := by
  have := h.own.1
  rw [spv_length] at this
  omega
theorem heap_ne {w : World} {a b : Nat} {x y : Array Value} {S T : TypeId} (h1 : w.heap[a]? = some (.cells x S)) (h2 : w.heap[b]? = some (.cells y T)) (hT : S ≠ T) : a ≠ b := by
  rintro rfl
  rw [h1] at h2
  cases h2
  exact hT rfl
theorem ownSp_cells {w wr : World} {v : Value} {n : Nat} {xs : List Value} (h : wr.ownsRow w.heap.size 52 4 v n xs) {g : Nat} (hg : g ∈ v.ownBlock.toList) : ∃ cur, wr.heap[g]? = some (.cells cur 52) := by
  rcases h.2 with ⟨hv, _⟩ | ⟨g', c, cur, hv, _, hh, _⟩
  · rw [hv] at hg; simp [Value.ownBlock] at hg
  · rw [hv] at hg
    have : g' = g := by simpa [Value.ownBlock, eq_comm] using hg
    subst this
    exact ⟨cur, hh⟩

section
variable {ops : Array Oper} {rest : List Oper} {o : Oper} {a : Act} {w : World} {Q : Exit → Act → World → Prop}
theorem run_appSp (ty : TypeId) (w0 : World) (ad0 : Option Addr) (n cap : Nat) (xs : List Value) (hown : w.ownsRow w0.heap.size 52 4 (.slice ad0 n cap) n xs) (f0 : Fr [] w0 w) (b : Nat) (us : List Value) (hb : w.heap[b]? = some (.cells us.toArray 52)) (hu : us.length = 4) (h1 : ∀ u ∈ us, u.oneCell' = true) (hm : n + 1 ≤ 10000) :
    ∃ g cap' w', (Builtin.append_ #[37, 37] ty #[.slice ad0 n cap, .slice (some ⟨b, 0, none⟩) 1 1]).run Try.prog w = .ok (.slice (some ⟨g, 0, none⟩) (n + 1) cap') w' ∧ w'.ownsRow w0.heap.size 52 4 (.slice (some ⟨g, 0, none⟩) (n + 1) cap') (n + 1) (xs ++ us) ∧ Fr (Value.ownBlock (.slice ad0 n cap)).toList w w' ∧ Fr [] w0 w' := by
  obtain ⟨i, hi, hz, hs, hbb⟩ := infoSp
  obtain ⟨v', w', hrun, h2, h3, h4, _⟩ := run_append_own_at (P := Try.prog) w w0.heap.size 37 ty 52 i (.agg #[.int .i64 0, .int .i64 0, .slice none 0 0, .slice none 0 0]) 4 64 Try.underlying37 hi hz hs hbb rfl (by omega) _ n xs hown ⟨b, 0, none⟩ 1 1 us (by omega)
      (by
        intro j x hx
        rw [Addr.add_mid, cell_of_row w b _ _ _ _ hb]
        simpa using hx) h1 (by unfold maxLen; omega) (by omega) f0.size
  have hfr : Fr [] w0 w' := f0.grown h3 (fun j e hj => by
    have := (hown.lt j e).1
    omega)
  rcases h2.2 with ⟨e, hn0⟩ | ⟨g, c', cur, e, r⟩
  · omega
  · subst e
    exact ⟨g, c', w', hrun, h2, (Fr.refl _ _).grown h3 (fun j e _ => by simp [e]), hfr⟩
theorem step_appSp {K : Act → World → Prop} {X : Prop} (hgd : o.guard = none) (s x : Operand) (ho : o.op = .call { callee := .builtin .append, args := #[s, x], argTypes := #[37, 37] }) (w0 : World) (ad0 : Option Addr) (n cap : Nat) (xs : List Value) (b : Nat) (us : List Value) (hs : a.eval s = .slice ad0 n cap) (hx : a.eval x = .slice (some ⟨b, 0, none⟩) 1 1)
    (hown : w.ownsRow w0.heap.size 52 4 (.slice ad0 n cap) n xs) (f0 : Fr [] w0 w) (hb : w.heap[b]? = some (.cells us.toArray 52)) (hu : us.length = 4) (h1 : ∀ u ∈ us, u.oneCell' = true) (hm : n + 1 ≤ 10000)
    (h : ∀ g cap' w', w'.ownsRow w0.heap.size 52 4 (.slice (some ⟨g, 0, none⟩) (n + 1) cap') (n + 1) (xs ++ us) → Fr (Value.ownBlock (.slice ad0 n cap)).toList w w' → Fr [] w0 w' → K (a.put o.dst (.slice (some ⟨g, 0, none⟩) (n + 1) cap')) w') :
    if Region.wanted o (yielded ops a.tmps) = true then Oper.wp Try.prog o a w K Q else X := by
  have hw : Region.wanted o (yielded ops a.tmps) = true := by simp [Region.wanted, hgd]
  rw [if_pos hw]
  obtain ⟨g, c', w', hrun, h2, h3, h4⟩ := run_appSp o.type w0 ad0 n cap xs hown f0 b us hb hu h1 hm
  unfold Oper.wp
  simp [execOp, ho, resolve, invoke, builtin, hs, hx, hrun, Result.andThen]
  exact h _ _ _ h2 h3 h4
end

/-- A span is put. -/
theorem d_step {w wr w5 w6 : World} {bs ba bb : Nat} {va vb : Value} {la lb : List UInt8} {AD : Option Addr} {N CAP : Nat} {S : List SpE} (h : DInv w wr bs ba bb va vb la lb AD N CAP S) {g6 cap6 : Nat} {e : SpE} (f5 : Fr [] wr w5) (o1 : Blk w5 e.bo ((la.drop e.off).take e.n)) (o2 : Blk w5 e.bn ((lb.drop e.off).take e.n)) (ob : Obj)
    (o6 : w6.ownsRow w.heap.size 52 4 (.slice (some ⟨g6, 0, none⟩) (N + 1) cap6) (N + 1) (spv S ++ e.vals)) (f6 : Fr (Value.ownBlock (.slice AD N CAP)).toList (w5.alloc ob) w6) (f06 : Fr [] w w6) (hbo : wr.heap.size ≤ e.bo) (hbn : e.bo < e.bn) (hb5 : e.bn < w5.heap.size) :
    DInv w (w6.setCell ⟨bs, 0, none⟩ (.slice (some ⟨g6, 0, none⟩) (N + 1) cap6)) bs ba bb va vb la lb (some ⟨g6, 0, none⟩) (N + 1) cap6 (S ++ [e]) := by
  have h5 := h.kept (f5.alloc ob)
  have hne : ∀ g, g ∈ (Value.ownBlock (.slice AD N CAP)).toList → ∃ cur, (w5.alloc ob).heap[g]? = some (.cells cur 52) := fun g hg => ownSp_cells h5.own hg
  have kp : ∀ (b : Nat) (x : Array Value) (T : TypeId), (w5.alloc ob).heap[b]? = some (.cells x T) → T ≠ 52 → w6.heap[b]? = some (.cells x T) := fun b x T hb hT => f6.same (fun hm => by obtain ⟨cur, hc⟩ := hne _ hm; exact heap_ne hb hc hT rfl) hb
  have c6 := kp _ _ _ h5.cell (by decide)
  have a6 := kp _ _ _ h5.boxa (by decide)
  have b6 := kp _ _ _ h5.boxb (by decide)
  have oks6 : ∀ x ∈ S ++ [e], Blk w6 x.bo ((la.drop x.off).take x.n) ∧ Blk w6 x.bn ((lb.drop x.off).take x.n) := by
    intro x hx
    have : Blk (w5.alloc ob) x.bo ((la.drop x.off).take x.n) ∧ Blk (w5.alloc ob) x.bn ((lb.drop x.off).take x.n) := by
      rcases List.mem_append.1 hx with hx | hx
      · exact h5.oks x hx
      · simp at hx
        subst hx
        exact ⟨o1.kept ((Fr.refl [] _).alloc ob) (by simp), o2.kept ((Fr.refl [] _).alloc ob) (by simp)⟩
    exact ⟨kp _ _ _ this.1 (by decide), kp _ _ _ this.2 (by decide)⟩
  have f7 : Fr [bs] w6 (w6.setCell ⟨bs, 0, none⟩ (.slice (some ⟨g6, 0, none⟩) (N + 1) cap6)) := (Fr.refl _ _).setCell _ _ (by simp)
  have k7 : ∀ (b : Nat) (x : Array Value) (T : TypeId), w6.heap[b]? = some (.cells x T) → T ≠ 37 → (w6.setCell ⟨bs, 0, none⟩ (.slice (some ⟨g6, 0, none⟩) (N + 1) cap6)).heap[b]? = some (.cells x T) := fun b x T hb hT => f7.same (fun hm => by
    have e0 : b = bs := by simpa using hm
    exact heap_ne hb c6 hT e0) hb
  refine ⟨?_, k7 _ _ _ a6 (by decide), k7 _ _ _ b6 (by decide), ?_, ?_, f06.setCell _ _ (fun hh => absurd hh (by have := h.news.1; simp; omega)), h.news, ?_⟩
  · exact heap_setCell_same w6 bs 0 _ _ (.slice (some ⟨g6, 0, none⟩) (N + 1) cap6) c6
  · rw [spv_snoc]
    refine ownSp_kept o6 f7 (fun g hg hm => ?_)
    obtain ⟨cur, hc⟩ := ownSp_cells o6 (g := g) (by rw [hg]; simp)
    have e0 : g = bs := by simpa using hm
    exact heap_ne hc c6 (by decide) e0
  · intro x hx
    exact ⟨k7 _ _ _ (oks6 x hx).1 (by decide), k7 _ _ _ (oks6 x hx).2 (by decide)⟩
  · have hs6 := f6.size
    have hs0 := h.fr.size
    have e1 : (w5.alloc ob).heap.size = w5.heap.size + 1 := by simp
    have e2 : (w6.setCell ⟨bs, 0, none⟩ (.slice (some ⟨g6, 0, none⟩) (N + 1) cap6)).heap.size = w6.heap.size := by simp [World.setCell]
    rw [e2]
    exact h.rise.snoc hs0 hbo hbn (by omega)
end Go.Proofs.Ytlfpoeimgoikkaa
