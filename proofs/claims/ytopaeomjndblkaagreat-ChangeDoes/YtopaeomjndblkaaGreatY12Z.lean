/-
  The device's Sync: what it answers, and what it leaves; the laws for ranging over a table.
-/
import Derived.Test.YtopaeomjndblkaaGreatY11Z
import Derived.Deep.MidRow
import Derived.Deep.RegionHeld3
import Derived.Deep.DrawnRows
namespace Go.Proofs.YtopaeomjndblkaaGreat.Dv
open Go.RowKit Go.Maps

theorem arr_one (l : List UInt8) : ∀ v ∈ (arr l).toList, v.oneCell' = true := by
  intro v hv
  simp [arr] at hv
  obtain ⟨b, _, rfl⟩ := hv
  rfl
theorem arr_all (l : List UInt8) : (arr l).all (·.oneCell') = true := by
  rw [Array.all_eq_true_iff_forall_mem]
  intro v hv
  exact arr_one l v (by simpa using hv)
theorem arr_at (l : List UInt8) (j : Nat) : (arr l)[j]? = l[j]?.map fun b => Value.int .u8 b.toNat := by simp [arr]

theorem size5 : (Tryz.prog.info? 5).map (·.size) = some 1 := by kernel_rfl

section
variable {ops : Array Oper} {rest : List Oper} {o : Oper} {a : Act} {w : World} {Q : Exit → Act → World → Prop}

/-- A block of bytes: an array, or what a slice lies over. -/
def Blk (w : World) (g : Nat) (t : TypeId) (l : List UInt8) : Prop := w.heap[g]? = some (.cells (arr l) t)

theorem Blk.kept {w w' : World} {g : Nat} {t : TypeId} {l : List UInt8} {L : List Nat} (h : Blk w g t l) (k : Fr L w w') (hg : g ∉ L) : Blk w' g t l := k.same hg h
theorem Blk.lt {w : World} {g : Nat} {t : TypeId} {l : List UInt8} (h : Blk w g t l) : g < w.heap.size := (Array.getElem?_eq_some_iff.1 h).1

theorem wp_alloc72 (hgd : o.guard = none) (ho : o.op = .alloc 185)
    (h : ∀ w', Blk w' w.heap.size 185 zeros → Fr [] w w' → w.heap.size < w'.heap.size → wpList Tryz.prog ops Q rest (a.put o.dst (.pointer (some ⟨w.heap.size, 0, none⟩))) w') : wpList Tryz.prog ops Q (o :: rest) a w :=
  wpList_plain hgd fun K hK => by
    unfold Oper.wp execOp
    simp [ho, run_alloc72 w, Result.andThen]
    exact hK _ _ (h _ (heap_alloc_new w _) ((Fr.refl _ _).alloc _) (by simp))

theorem wp_make512 (hgd : o.guard = none) (ho : o.op = .makeSlice 37 (.const (.int .i64 512)) (.const (.int .i64 512)))
    (h : ∀ w', Blk w' w.heap.size 5 zeros → Fr [] w w' → w.heap.size < w'.heap.size → wpList Tryz.prog ops Q rest (a.put o.dst (.slice (some ⟨w.heap.size, 0, none⟩) 512 512)) w') : wpList Tryz.prog ops Q (o :: rest) a w :=
  wpList_plain hgd fun K hK => by
    unfold Oper.wp execOp
    simp [ho, Act.eval, mk512 w, Result.andThen]
    exact hK _ _ (h _ (heap_alloc_new w _) ((Fr.refl _ _).alloc _) (by simp))

theorem wp_store72 (hgd : o.guard = none) (x y : Operand) (ho : o.op = .store 185 x y) (g : Nat) (l l' : List UInt8) (hx : a.eval x = .pointer (some ⟨g, 0, none⟩)) (hy : a.eval y = .agg (arr l'))
    (hg : Blk w g 185 l) (hl : l.length = 512) (hl' : l'.length = 512)
    (h : ∀ w', Blk w' g 185 l' → Fr [g] w w' → wpList Tryz.prog ops Q rest (a.put o.dst undef) w') : wpList Tryz.prog ops Q (o :: rest) a w :=
  wpList_store_row hgd 185 x y ho g (arr l') hx hy 185 (arr l) hg (by rw [size72, arr_size, hl']) (by rw [arr_size, arr_size, hl, hl']) (arr_all l')
    (h _ (setRow_heap w g _ _ _ _ hg) ⟨rfl, rfl, rfl, by simp, fun i _ hn => setRow_other w g i _ (fun e => hn (by simp [e]))⟩)

/-- copy of a whole block of 512 bytes over another one. -/
theorem wp_copy512 (hgd : o.guard = none) (d s : Operand) (ho : o.op = .call { callee := .builtin .copy, args := #[d, s], argTypes := #[37, 37] }) (g b off c1 c2 : Nat) (t : TypeId) (l l' : List UInt8)
    (hd : a.eval d = .slice (some ⟨g, 0, none⟩) 512 c1) (hs : a.eval s = .slice (some ⟨b, off, none⟩) 512 c2) (hg : Blk w g t l) (hl : l.length = 512) (hl' : l'.length = 512)
    (hsrc : ∀ j v, (arr l').toList[j]? = some v → w.cell? ⟨b, off + j, none⟩ = some v)
    (h : ∀ w', Blk w' g t l' → Fr [g] w w' → wpList Tryz.prog ops Q rest (a.put o.dst (goInt 512)) w') : wpList Tryz.prog ops Q (o :: rest) a w := by
  have hln : (arr l').toList.length = 512 := by simp [arr, hl']
  refine wpList_copy_own hgd d s 37 37 ho 5 Tryz.underlying37 size5 g 0 512 c1 ⟨b, off, none⟩ 512 c2 hd hs (arr l) t hg (arr l').toList (by rw [hln]; rfl) ?_ (by rw [hln, arr_size, hl]; omega) (arr_one l') ?_
  · intro j v hv
    rw [Addr.add_mid]
    exact hsrc j v hv
  · have e : (List.take 0 (arr l).toList ++ ((arr l').toList ++ List.drop (0 + (arr l').toList.length) (arr l).toList)).toArray = arr l' := by
      rw [hln, List.drop_of_length_le (by simp [arr, hl])]
      simp
    rw [e, hln]
    exact h _ (setRow_heap w g _ (arr l') t _ hg) ⟨rfl, rfl, rfl, by simp, fun i _ hn => setRow_other w g i _ (fun e => hn (by simp [e]))⟩

theorem Blk.src {w : World} {g : Nat} {t : TypeId} {l : List UInt8} (h : Blk w g t l) : ∀ j v, (arr l).toList[j]? = some v → w.cell? ⟨g, 0 + j, none⟩ = some v := by
  intro j v hv
  rw [Nat.zero_add, cell_of_row w g j _ _ _ h]
  simpa using hv

/-! ### the maps of blocks -/
theorem wp_look_ok (hgd : o.guard = none) (m x : Operand) (ho : o.op = Op.lookup 178 m x true) (b : Nat) (S : Tab) (k : Int) (hk : (Lit.int .i64 k).wf = true) (hm : a.eval m = .map (some b)) (hx : a.eval x = .int .i64 k) (ht : tabAt w b S)
    (h : wpList Tryz.prog ops Q rest (a.put o.dst (.tuple #[.agg (arr (S.get k)), .bool (S k).isSome])) w) : wpList Tryz.prog ops Q (o :: rest) a w := by
  obtain ⟨D, hown, hs⟩ := ht
  refine wpList_lookup_own_ok w hgd m x 178 ho 3 185 law3 Tryz.underlying178 rdArr (zero72 w) (.held zeros) [] (rdArr_mk zeros_length) b 65536 D hm hown _ _ hx (keyOf_int_mk Tryz.underlying3 hk) ?_
  intro v ps hv
  obtain ⟨l, hl, rfl, hz⟩ := rdArr_inv hv
  rw [hs.atKey] at hz
  simp only [Prod.mk.injEq, DataW.held.injEq] at hz
  rw [← hz.1, hs.has]
  exact h

theorem wp_look (hgd : o.guard = none) (m x : Operand) (ho : o.op = Op.lookup 178 m x false) (b : Nat) (S : Tab) (k : Int) (hk : (Lit.int .i64 k).wf = true) (hm : a.eval m = .map (some b)) (hx : a.eval x = .int .i64 k) (ht : tabAt w b S)
    (h : wpList Tryz.prog ops Q rest (a.put o.dst (.agg (arr (S.get k)))) w) : wpList Tryz.prog ops Q (o :: rest) a w := by
  obtain ⟨D, hown, hs⟩ := ht
  refine wpList_plain hgd fun K' hK' => ?_
  obtain ⟨v, ps, hrun, hv⟩ := hown.lookup law3 Tryz.underlying178 (zero72 w) (rdArr_mk zeros_length) (keyOf_int_mk Tryz.underlying3 hk)
  obtain ⟨l, hl, rfl, hz⟩ := rdArr_inv hv
  rw [hs.atKey] at hz
  simp only [Prod.mk.injEq, DataW.held.injEq] at hz
  unfold Oper.wp
  simp [execOp, ho, hm, hx, hrun, Result.andThen]
  rw [← hz.1]
  exact hK' _ _ h

/-- The store into a table, as a run. -/
theorem run_tab_put {w : World} {b : Nat} {S : Tab} (ht : tabAt w b S) {k : Int} (h0 : 0 ≤ k) (h1 : k < 65536) {l : List UInt8} (hl : l.length = 512) :
    ∃ w', (Instr.mapUpdate 178 (.map (some b)) (.int .i64 k) (.agg (arr l))).run Tryz.prog w = .ok () w' ∧ tabAt w' b (S.put k l) ∧ Fr [b] w w' := by
  obtain ⟨D, hown, hs⟩ := ht
  have hk : (Lit.int .i64 k).wf = true := WalkArith.wf_i64 (by omega)
  obtain ⟨w', hrun, hown', hturn⟩ := hown.store law3 Tryz.underlying178 (by unfold maxLen; omega) (keyOf_int_mk Tryz.underlying3 hk) (rdArr_mk hl)
  have hs' := hs.put hown.isMap hl h0 h1
  exact ⟨w', hrun, ⟨_, owns_small hown' hs', hs'⟩, (Fr.refl _ _).grown hturn.grown (fun j e _ => by simp at e; simp [e])⟩

/-- clear. -/
theorem run_tab_clear {w : World} {b : Nat} {S : Tab} (ht : tabAt w b S) (ty : TypeId) :
    ∃ w', (Builtin.clear_ #[178] ty #[.map (some b)]).run Tryz.prog w = .ok (.tuple #[]) w' ∧ tabAt w' b Tab.none ∧ Fr [b] w w' := by
  obtain ⟨D, ⟨es, clock, hb, F, hn, hD⟩, hs⟩ := ht
  refine ⟨ChangeMaps.setBlock w b (.map #[] clock), ?_, ⟨.map [], ⟨#[], clock, ChangeMaps.heap_setBlock_same hb _, ⟨by simp, MapKept.stamped_empty clock, by simp⟩, by simp, rfl⟩, Says.none⟩, ⟨rfl, rfl, rfl, by simp [ChangeMaps.setBlock], fun i _ hi => ChangeMaps.heap_setBlock_other hb _ (by simpa using hi)⟩⟩
  simp [Builtin.clear_, run_underlying Tryz.underlying178, MapKept.run_getObj_map hb, MapKept.run_setObj_map _ hb, Result.andThen, ChangeMaps.setBlock]

theorem wp_clear (hgd : o.guard = none) (m : Operand) (ho : o.op = Op.call { callee := Callee.builtin Builtin.clear, args := #[m], argTypes := #[178] }) (b : Nat) (S : Tab) (hm : a.eval m = .map (some b)) (ht : tabAt w b S)
    (h : ∀ w', tabAt w' b Tab.none → Fr [b] w w' → wpList Tryz.prog ops Q rest (a.put o.dst (.tuple #[])) w') : wpList Tryz.prog ops Q (o :: rest) a w := by
  refine wpList_plain hgd fun K' hK' => ?_
  obtain ⟨w', hrun, r1, r2⟩ := run_tab_clear ht o.type
  unfold Oper.wp
  simp [execOp, ho, resolve, invoke, builtin, hm, hrun, Result.andThen]
  exact hK' _ _ (h w' r1 r2)

end
end Go.Proofs.YtopaeomjndblkaaGreat.Dv

namespace Go.Proofs.YtopaeomjndblkaaGreat.Dv
open Go.RowKit Go.Maps

/-- The latest bytes of a block. -/
def latest (S O : Tab) (k : Int) : List UInt8 := (O k).getD (S.get k)

theorem Dev.fresh {w w1 w2 : World} {p bs bo : Nat} {n a : Int} {dn : Bool} {S O : Tab} {g : Nat} (h : Dev w p bs bo n a dn S O) (d1 : Dev w1 p bs bo n a dn S O) (hg : w.heap.size ≤ g) (f : Fr [g] w1 w2) : Dev w2 p bs bo n a dn S O := by
  have := h.lt
  exact d1.kept f (by simp; omega) (by simp; omega) (by simp; omega)

theorem tabAt.get_length {w : World} {b : Nat} {S : Tab} (h : tabAt w b S) (k : Int) : (S.get k).length = 512 := by
  obtain ⟨D, _, hs⟩ := h; exact hs.get_length k

set_option maxHeartbeats 1000000 in
set_option maxRecDepth 100000 in
theorem read_open {w : World} {p bs bo : Nat} {n a : Int} {S O : Tab} (h : Dev w p bs bo n a false S O) (k : Int) (h0 : 0 ≤ k) (h1 : k < n) (hO : (O k).isSome = true) :
    Calls Tryz.prog 83 #[.pointer (some ⟨p, 0, none⟩), .int .i64 k] w fun e w' => ∃ g, e = .returned (.tuple #[.slice (some ⟨g, 0, none⟩) 512 512, .int .i64 0]) ∧ Blk w' g 5 (O.get k) ∧ w.heap.size ≤ g ∧ Fr [] w w' := by
  have hr : reached n k false = 0 := by simp [reached]; omega
  have hn2 := h.n2
  have hk : (Lit.int .i64 k).wf = true := WalkArith.wf_i64 (by omega)
  have c4 := h.cell4
  go_enter Tryz.func83, Tryz.ntmps83
  go_wp2_with (first
    | (go_at_call 182; refine (reach_dev h k).mono ?_; rw [hr]; rintro e w ⟨rfl, rfl⟩)
    | (refine wp_look_ok rfl _ _ rfl bo O k hk rfl rfl h.opn ?_)
    | (refine wp_alloc72 rfl rfl ?_; intro w1 b1 f1 s1)
    | (refine wp_store72 rfl _ _ rfl _ zeros (O.get k) rfl rfl b1 zeros_length (h.opn.get_length k) ?_; intro w2 b2 f2)
    | (refine wp_make512 rfl rfl ?_; intro w3 b3 f3 s3)
    | (refine wp_copy512 rfl _ _ rfl _ _ 0 _ _ 5 zeros (O.get k) rfl rfl b3 zeros_length (h.opn.get_length k) (b2.kept f3 (by simp)).src ?_; intro w4 b4 f4)
    | go_in)
  go_ret2
  exact ⟨_, rfl, b4, by have := f2.size; omega, ((f1.then f2 (fun i hi hm => by simp at hm; omega)).trans f3).then f4 (fun i hi hm => by have := f2.size; simp at hm; omega)⟩

set_option maxHeartbeats 1000000 in
set_option maxRecDepth 100000 in
theorem read_safe {w : World} {p bs bo : Nat} {n a : Int} {S O : Tab} (h : Dev w p bs bo n a false S O) (k : Int) (h0 : 0 ≤ k) (h1 : k < n) (hO : (O k).isSome = false) :
    Calls Tryz.prog 83 #[.pointer (some ⟨p, 0, none⟩), .int .i64 k] w fun e w' => ∃ g, e = .returned (.tuple #[.slice (some ⟨g, 0, none⟩) 512 512, .int .i64 0]) ∧ Blk w' g 5 (S.get k) ∧ w.heap.size ≤ g ∧ Fr [] w w' := by
  have hr : reached n k false = 0 := by simp [reached]; omega
  have hn2 := h.n2
  have hk : (Lit.int .i64 k).wf = true := WalkArith.wf_i64 (by omega)
  have c4 := h.cell4
  go_enter Tryz.func83, Tryz.ntmps83
  go_wp2_with (first
    | (go_at_call 182; refine (reach_dev h k).mono ?_; rw [hr]; rintro e w ⟨rfl, rfl⟩)
    | (refine wp_look_ok rfl _ _ rfl bo O k hk rfl rfl h.opn ?_)
    | (refine wp_alloc72 rfl rfl ?_; intro w1 b1 f1 s1; have d1 := h.kept f1 (by simp) (by simp) (by simp))
    | (refine wp_store72 rfl _ _ rfl _ zeros (O.get k) rfl rfl b1 zeros_length (h.opn.get_length k) ?_; intro w2 b2 f2; have d2 := h.fresh d1 (Nat.le_refl _) f2; have c3 := d2.cell3)
    | (refine wp_look rfl _ _ rfl bs S k hk rfl rfl d2.safe ?_)
    | (refine wp_store72 rfl _ _ rfl _ (O.get k) (S.get k) rfl rfl b2 (h.opn.get_length k) (h.safe.get_length k) ?_; intro w2' b2' f2')
    | (refine wp_make512 rfl rfl ?_; intro w3 b3 f3 s3)
    | (refine wp_copy512 rfl _ _ rfl _ _ 0 _ _ 5 zeros (S.get k) rfl rfl b3 zeros_length (h.safe.get_length k) (b2'.kept f3 (by simp)).src ?_; intro w4 b4 f4)
    | go_in)
  go_ret2
  exact ⟨_, rfl, b4, by have := f2.size; have := f2'.size; omega, (((f1.then f2 (fun i hi hm => by simp at hm; omega)).then f2' (fun i hi hm => by simp at hm; omega)).trans f3).then f4 (fun i hi hm => by have := f2.size; have := f2'.size; simp at hm; omega)⟩

theorem read_dev {w : World} {p bs bo : Nat} {n a : Int} {S O : Tab} (h : Dev w p bs bo n a false S O) (k : Int) (h0 : 0 ≤ k) (h1 : k < n) :
    Calls Tryz.prog 83 #[.pointer (some ⟨p, 0, none⟩), .int .i64 k] w fun e w' => ∃ g, e = .returned (.tuple #[.slice (some ⟨g, 0, none⟩) 512 512, .int .i64 0]) ∧ Blk w' g 5 (latest S O k) ∧ w.heap.size ≤ g ∧ Fr [] w w' := by
  cases hO : O k with
  | none =>
    have e : latest S O k = S.get k := by simp [latest, hO]
    rw [e]
    exact read_safe h k h0 h1 (by rw [hO]; rfl)
  | some l =>
    have e : latest S O k = O.get k := by simp [latest, hO, Tab.get]
    rw [e]
    exact read_open h k h0 h1 (by rw [hO]; rfl)

end Go.Proofs.YtopaeomjndblkaaGreat.Dv

namespace Go.Proofs.YtopaeomjndblkaaGreat.Dv
open Go.RowKit Go.Maps

/-- What a slice of 512 bytes lies over. -/
def Src (w : World) (b off : Nat) (l : List UInt8) : Prop := ∀ j v, (arr l).toList[j]? = some v → w.cell? ⟨b, off + j, none⟩ = some v

theorem Src.kept {w w' : World} {b off : Nat} {l : List UInt8} {L : List Nat} (h : Src w b off l) (k : Fr L w w') (hb : b ∉ L) : Src w' b off l := by
  intro j v hv
  have hc := h j v hv
  have hlt := block_lt_of_cell hc
  rw [← hc]
  exact World.cell?_of_block (k.block b hlt hb)

set_option maxHeartbeats 1000000 in
set_option maxRecDepth 100000 in
theorem write_dev {w : World} {p bs bo : Nat} {n a : Int} {S O : Tab} (h : Dev w p bs bo n a false S O) (k : Int) (h0 : 0 ≤ k) (h1 : k < n) (b off c : Nat) (l : List UInt8) (hl : l.length = 512) (hsrc : Src w b off l) :
    Calls Tryz.prog 129 #[.pointer (some ⟨p, 0, none⟩), .int .i64 k, .slice (some ⟨b, off, none⟩) 512 c] w fun e w' =>
      e = .returned (.int .i64 (told (crash a))) ∧ Dev w' p bs bo n (left a) (crash a) S (O.put k l) ∧ Fr [p, bo] w w' := by
  have hr : reached n k false = 0 := by simp [reached]; omega
  have hn2 := h.n2
  have hk : (Lit.int .i64 k).wf = true := WalkArith.wf_i64 (by omega)
  have hblt : b < w.heap.size := block_lt_of_cell (hsrc 0 _ (by simp [arr, List.getElem?_eq_getElem (show 0 < l.length by omega)]; rfl))
  go_enter Tryz.func129, Tryz.ntmps129
  go_wp2_with (first
    | (go_at_call 182; refine (reach_dev h k).mono ?_; rw [hr]; rintro e w ⟨rfl, rfl⟩)
    | (refine wp_alloc72 rfl rfl ?_; intro w1 b1 f1 s1; have d1 := h.kept f1 (by simp) (by simp) (by simp); have src1 := hsrc.kept f1 (by simp))
    | (refine wp_copy512 rfl _ _ rfl _ _ _ _ _ 185 zeros l rfl rfl b1 zeros_length hl src1 ?_; intro w2 b2 f2; have d2 := h.fresh d1 (Nat.le_refl _) f2)
    | go_in)
  have c4 := d2.cell4
  have hu := Tryz.underlying185
  have hi : (Tryz.prog.info? 185).map (·.size) = some (arr l).toList.length := by rw [size72]; simp [arr, hl]
  have hln : (arr l).toList.length = 512 := by simp [arr, hl]
  have hon := arr_one l
  have hrg : w2.rangeAt w.heap.size 0 (arr l).toList := fun j v hv => b2.src j v hv
  obtain ⟨w3, hrun, t3, f3⟩ := run_tab_put d2.drew.opn h0 (by omega) hl
  have hlt := h.lt
  have d3 : Dev w3 p bs bo n a false S (O.put k l) := { d2.drew with cells := f3.same (by simp; exact d2.ne2) d2.drew.cells, safe := d2.drew.safe.kept f3 (by simp; exact d2.ne3), opn := t3 }
  have k4 := d3.cell4
  have b3 : Blk w3 w.heap.size 185 l := f3.same (by simp; omega) b2
  have kr : w3.rangeAt w.heap.size 0 (arr l).toList := fun j v hv => b3.src j v hv
  go_region_held3 (fun w' => w'.cell? ⟨p, 4, none⟩ = some (.map (some bo)) ∧ w'.rangeAt w.heap.size 0 (arr l).toList) (first | exact ⟨k4, kr⟩ | go_keep_ranges) (fail)
  have hfr : Fr [p, bo] w w3 := ((f1.then f2 (fun i hi hm => by simp at hm; omega)).drew.mono (M := [p, bo]) (by simp)).then f3 (fun i hi hm => by simp at hm ⊢; exact Or.inr hm)
  clear hrun hu hi hln hon c4 k4 kr hrg
  go_wp2_with (go_at_call 207; refine (count_dev d3).mono ?_; rintro e w4 ⟨rfl, d4, f4⟩)
  go_ret
  exact ⟨rfl, d4, hfr.then f4 (fun i hi hm => by simp at hm ⊢; exact Or.inl hm)⟩

end Go.Proofs.YtopaeomjndblkaaGreat.Dv

namespace Go.Proofs.YtopaeomjndblkaaGreat.Dv
open Go.RowKit Go.Maps

/-- Ranging over a table, under way. -/
def Rng (w : World) (b r : Nat) (O : Tab) (left : Lit → Bool) (cnt : Nat) : Prop := ∃ D, w.ranges Tryz.prog 3 rdArr b r 65536 D left cnt ∧ Says D O

theorem Rng.kept {w w' : World} {b r : Nat} {O : Tab} {left : Lit → Bool} {cnt : Nat} {L : List Nat} (h : Rng w b r O left cnt) (k : Fr L w w') (hb : b ∉ L) (hr : r ∉ L) : Rng w' b r O left cnt := by
  obtain ⟨D, ⟨es, clock, since, seen, c0, h1, F, h2, h3, h4, rest⟩, hs⟩ := h
  exact ⟨D, ⟨es, clock, since, seen, c0, k.same hb h1, F, h2, h3, k.same hr h4, rest⟩, hs⟩

theorem Rng.tab {w : World} {b r : Nat} {O : Tab} {left : Lit → Bool} {cnt : Nat} (h : Rng w b r O left cnt) : tabAt w b O := by
  obtain ⟨D, hr, hs⟩ := h
  exact ⟨D, hr.owns, hs⟩

theorem Rng.measure {w : World} {b r : Nat} {O : Tab} {left : Lit → Bool} {cnt : Nat} (h : Rng w b r O left cnt) : w.rangeLeft b r = cnt := by
  obtain ⟨D, hr, hs⟩ := h
  exact hr.left_eq

theorem tabAt.len {w : World} {b : Nat} {O : Tab} (h : tabAt w b O) {x : Int} {l : List UInt8} (hO : O x = some l) : l.length = 512 := by
  obtain ⟨D, _, hs⟩ := h
  exact hs.len x l hO
theorem tabAt.key {w : World} {b : Nat} {O : Tab} (h : tabAt w b O) {x : Int} {l : List UInt8} (hO : O x = some l) : 0 ≤ x ∧ x < 65536 := by
  obtain ⟨D, _, hs⟩ := h
  exact hs.key x l hO

/-- What is still to come is strictly less. -/
def strike (left : Lit → Bool) (x : Int) : Lit → Bool := fun z => left z && !z.sameKey (.int .i64 x)

section
variable {ops : Array Oper} {rest : List Oper} {o : Oper} {a : Act} {w : World} {Q : Exit → Act → World → Prop}

theorem wp_range (hgd : o.guard = none) (m : Operand) (ho : o.op = Op.range 178 m) (b : Nat) (O : Tab) (hm : a.eval m = .map (some b)) (ht : tabAt w b O)
    (h : ∀ w' left cnt, Rng w' b w.heap.size O left cnt → (∀ k, left (.int .i64 k) = (O k).isSome) → Fr [] w w' → w.heap.size < w'.heap.size → wpList Tryz.prog ops Q rest (a.put o.dst (.pointer (some ⟨w.heap.size, 0, none⟩))) w') : wpList Tryz.prog ops Q (o :: rest) a w := by
  obtain ⟨D, hown, hs⟩ := ht
  refine wpList_range_own w hgd m 178 ho 3 185 law3 Tryz.underlying178 rdArr b 65536 D hm hown ?_
  intro w' hrg hg hsz
  exact h w' _ _ ⟨D, hrg, hs⟩ hs.has ((Fr.refl _ _).grown hg (fun j e => nomatch e)) (by omega)

theorem wp_next (hgd : o.guard = none) (it : Operand) (ho : o.op = Op.next it false) (b r : Nat) (O : Tab) (left : Lit → Bool) (cnt : Nat) (hit : a.eval it = .pointer (some ⟨r, 0, none⟩)) (hr : Rng w b r O left cnt)
    (hDone : (∀ kl, left kl = false) → wpList Tryz.prog ops Q rest (a.put o.dst (.tuple #[.bool false])) w)
    (hMore : ∀ (x : Int) (l : List UInt8) (w' : World) (cnt' : Nat), O x = some l → left (.int .i64 x) = true → Rng w' b r O (strike left x) cnt' → cnt' < cnt → Fr [r] w w' →
      (Instr.entry (.pointer (some ⟨r, 0, none⟩))).run Tryz.prog w' = .ok (.tuple #[.int .i64 x, .agg (arr l)]) w' → wpList Tryz.prog ops Q rest (a.put o.dst (.tuple #[.bool true, .int .i64 x, .agg (arr l)])) w') :
    wpList Tryz.prog ops Q (o :: rest) a w := by
  obtain ⟨D, hrg, hs⟩ := hr
  refine wpList_next_ranges w hgd it ho 3 law3 rdArr (Value.int .i64) (fun l : List UInt8 => Value.agg (arr l)) (fun key kl hk => by obtain ⟨x, rfl, _⟩ := Maps.keyOf_int_inv Tryz.underlying3 hk; exact ⟨x, rfl⟩)
    (fun v y hv => by obtain ⟨l, _, rfl, _⟩ := rdArr_inv hv; exact ⟨l, rfl⟩) b r 65536 D left cnt hit hrg (fun _ h => hDone h) ?_
  intro x l kl y w' cnt' hkey hl hv hat hrg' hlt hg hsz hen
  obtain ⟨x', ex, rfl, _⟩ := Maps.keyOf_int_inv Tryz.underlying3 hkey
  cases ex
  obtain ⟨l', hl', el, rfl⟩ := rdArr_inv hv
  have e1 : l = l' := by
    have h1 := bytesOf_mk l
    have h2 := bytesOf_mk l'
    simp only [Value.agg.injEq] at el
    have h3 : (l.map fun b => Value.int .u8 b.toNat) = (l'.map fun b => Value.int .u8 b.toNat) := by simpa [arr] using el
    rw [h3, h2] at h1
    exact (Option.some.inj h1).symm
  subst e1
  have hO : O x = some l := by
    have hh := hs.has x
    rw [has_true_of_atKey hat] at hh
    obtain ⟨m, hm⟩ := Option.isSome_iff_exists.1 hh.symm
    have := hs.at' x m hm .nil
    rw [hat] at this
    simp only [DataW.held.injEq] at this
    rw [hm, this]
  exact hMore x l w' cnt' hO hl ⟨D, hrg', hs⟩ hlt ((Fr.refl _ _).grown hg (fun j e _ => by simp at e; simp [e])) hen

end

/-- O's entries laid over S's, but for those that are still to come. -/
def mix (left : Lit → Bool) (S O : Tab) : Tab := fun k => if left (.int .i64 k) then S k else (O k).or (S k)
def over (S O : Tab) : Tab := fun k => (O k).or (S k)

theorem mix_start {left : Lit → Bool} {S O : Tab} (h : ∀ k, left (.int .i64 k) = (O k).isSome) : mix left S O = S := by
  funext k
  unfold mix
  rw [h]
  cases e : O k <;> simp
theorem mix_end {left : Lit → Bool} {S O : Tab} (h : ∀ kl, left kl = false) : mix left S O = over S O := by
  funext k
  simp [mix, over, h]
theorem mix_step {left : Lit → Bool} {S O : Tab} {x : Int} {l : List UInt8} (hO : O x = some l) : (mix left S O).put x l = mix (strike left x) S O := by
  funext k
  unfold Tab.put mix strike
  by_cases e : k = x
  · subst e
    simp [Lit.sameKey, hO]
  · simp [Lit.sameKey, e]

set_option maxHeartbeats 1000000 in
set_option maxRecDepth 100000 in
theorem sync_dev {w : World} {p bs bo : Nat} {n a : Int} {S O : Tab} (h : Dev w p bs bo n a false S O) (hc : crash a = false) :
    Calls Tryz.prog 125 #[.pointer (some ⟨p, 0, none⟩)] w fun e w' => e = .returned (.int .i64 0) ∧ Dev w' p bs bo n (left a) false (over S O) Tab.none ∧ Fr [p, bs, bo] w w' := by
  go_enter Tryz.func125, Tryz.ntmps125
  go_wp2_with (first
    | (go_at_call 134; refine (awake_dev h).mono ?_; rw [told_f]; rintro e w ⟨rfl, rfl⟩)
    | (go_at_call 207; refine (count_dev h).mono ?_; rw [hc, told_f]; rintro e w1 ⟨rfl, d1, f1⟩; have c4 := d1.cell4)
    | (refine wp_range rfl _ rfl bo O rfl d1.opn ?_; intro w2 left0 cnt0 rg0 hleft0 f2 s2)
    | go_in)
  have hlt := d1.lt
  obtain ⟨hp1, hp2, hp3⟩ := hlt
  have d2 := d1.kept f2 (by simp) (by simp) (by simp)
  have ne1 := d1.ne1; have ne2 := d1.ne2; have ne3 := d1.ne3
  go_frame
  go_loopw [5] (fun _ wr => ∃ (left : Lit → Bool) (cnt : Nat), Rng wr bo w1.heap.size O left cnt ∧ tabAt wr bs (mix left S O) ∧ Fr [bs, w1.heap.size] w2 wr) (fun _ wr => wr.rangeLeft bo w1.heap.size)
  case atStart => exact ⟨left0, cnt0, rg0, by rw [mix_start hleft0]; exact d2.safe, Fr.refl _ _⟩
  case round =>
    obtain ⟨lf, cnt, rg, ts, fr⟩ := hrel
    have hu := Tryz.underlying185
    have cp := fr.same (k := p) (by simp; omega) d2.cells
    go_wp2_with (first
      | (refine wp_next rfl _ rfl bo w1.heap.size O lf cnt rfl rg ?_ ?_)
      | go_in)
    · intro hdone
      have c4' : wr.cell? ⟨p, 4, none⟩ = some (.map (some bo)) := by rw [cell_of_row wr p 4 _ _ _ cp]; rfl
      have to := rg.tab
      go_wp2_with (first
        | (refine wp_clear rfl _ rfl bo O rfl to ?_; intro w5 t5 f5)
        | go_in)
      go_ret
      have d5 : Dev w5 p bs bo n (left a) false (over S O) Tab.none := { d2 with cells := f5.same (by simp; exact ne2) cp, safe := by rw [← mix_end hdone]; exact ts.kept f5 (by simp; exact ne3), opn := t5 }
      exact ⟨rfl, d5, ((((f1.mono (M := [p, bs, bo]) (fun i _ hm => by simp at hm ⊢; exact Or.inl hm)).then f2 (by simp)).then fr (fun i hi hm => by have := f1.size; simp at hm ⊢; omega)).then f5 (fun i hi hm => by simp at hm ⊢; omega))⟩
    · intro x l w3 cnt3 hO _ rg3 hcnt f3 hen
      have hl := rg.tab.len hO
      have hx := rg.tab.key hO
      obtain ⟨hx0, hx1⟩ := hx
      have cp3 := f3.same (k := p) (by simp; omega) cp
      have ts3 := ts.kept f3 (by simp; omega)
      have hlt3 := ts3.lt
      have sz3 := f3.size
      have szr := fr.size
      go_wp2_with (first
        | (refine wp_alloc72 rfl rfl ?_; intro w4 b4 f4 s4)
        | (refine wp_store72 rfl _ _ rfl _ zeros l rfl rfl b4 zeros_length hl ?_; intro w5 b5 f5)
        | go_in)
      have sz4 := f4.size
      have cp5 := f5.same (k := p) (by simp; omega) (f4.same (by simp) cp3)
      have ts5 := (ts3.kept f4 (by simp)).kept f5 (by simp; omega)
      have c3 : w5.cell? ⟨p, 3, none⟩ = some (.map (some bs)) := by rw [cell_of_row w5 p 3 _ _ _ cp5]; rfl
      have hi : (Tryz.prog.info? 185).map (·.size) = some (arr l).toList.length := by rw [size72]; simp [arr, hl]
      have hln : (arr l).toList.length = 512 := by simp [arr, hl]
      have hon := arr_one l
      have hrg : w5.rangeAt w3.heap.size 0 (arr l).toList := fun j v hv => b5.src j v hv
      have ts5d : tabAt w5.drew bs (mix lf S O) := ts5.block rfl
      obtain ⟨w6, hrun, t6, f6⟩ := run_tab_put ts5d hx0 hx1 hl
      have cp6 := f6.same (k := p) (by simp; omega) (show w5.drew.heap[p]? = _ from cp5)
      have k3 : w6.cell? ⟨p, 3, none⟩ = some (.map (some bs)) := by rw [cell_of_row w6 p 3 _ _ _ cp6]; rfl
      have b6 : Blk w6 w3.heap.size 185 l := f6.same (by simp; omega) (show w5.drew.heap[w3.heap.size]? = _ from b5)
      have kr : w6.rangeAt w3.heap.size 0 (arr l).toList := fun j v hv => b6.src j v hv
      go_region_held3 (fun w' => w'.cell? ⟨p, 3, none⟩ = some (.map (some bs)) ∧ w'.rangeAt w3.heap.size 0 (arr l).toList) (first | exact ⟨k3, kr⟩ | go_keep_ranges) (fail)
      clear hrun hen hi hln hon c3 k3 hrg kr
      have f56 : Fr [bs] w5 w6 := (Fr.refl [bs] w5).drew.trans f6
      have rg6 : Rng w6 bo w1.heap.size O (strike lf x) cnt3 := ((rg3.kept f4 (by simp) (by simp)).kept f5 (by simp; omega) (by simp; omega)).kept f56 (by simp; omega) (by simp; omega)
      have fr6 : Fr [bs, w1.heap.size] w2 w6 := (((fr.then f3 (fun i hi hm => by simp at hm ⊢; omega)).then f4 (by simp)).then f5 (fun i hi hm => by simp at hm ⊢; omega)).then f56 (fun i hi hm => by simp at hm ⊢; omega)
      go_wp2
      go_roundw
      case rel => exact ⟨_, cnt3, rg6, by rw [← mix_step hO]; exact t6, fr6⟩
      case measure => rw [rg6.measure, rg.measure]; exact hcnt

end Go.Proofs.YtopaeomjndblkaaGreat.Dv

