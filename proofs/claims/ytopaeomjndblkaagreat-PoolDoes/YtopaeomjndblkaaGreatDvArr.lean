/-
  Laws at the operations for arrays of 512 bytes: made, stored, loaded, copied; for the maps that hold them; the world behind each is a letter with what is known of it.
-/
import Derived.Test.YtopaeomjndblkaaGreatDvSmall
import Derived.Deep.MidRow
import Derived.Deep.RegionHeld3
import Derived.Deep.DrawnRows
namespace Go.Proofs.YtopaeomjndblkaaGreat.Dv
open Go.RowKit Go.Maps

theorem arr_one (l : List UInt8) : ∀ v ∈ (arr l).toList, v.oneCell' = true := by
  intro v hv
  simp [arr] at hv
  obtain ⟨b, _, rfl⟩ := hv
  rfl
theorem arr_all (l : List UInt8) : (arr l).all (·.oneCell') = true := by
  rw [Array.all_eq_true_iff_forall_mem]
  intro v hv
  exact arr_one l v (by simpa using hv)
theorem arr_at (l : List UInt8) (j : Nat) : (arr l)[j]? = l[j]?.map fun b => Value.int .u8 b.toNat := by simp [arr]

theorem size5 : (Tryz.prog.info? 5).map (·.size) = some 1 := by kernel_rfl

section
variable {ops : Array Oper} {rest : List Oper} {o : Oper} {a : Act} {w : World} {Q : Exit → Act → World → Prop}

/-- A block of bytes: an array, or what a slice lies over. -/
def Blk (w : World) (g : Nat) (t : TypeId) (l : List UInt8) : Prop := w.heap[g]? = some (.cells (arr l) t)

theorem Blk.kept {w w' : World} {g : Nat} {t : TypeId} {l : List UInt8} {L : List Nat} (h : Blk w g t l) (k : Fr L w w') (hg : g ∉ L) : Blk w' g t l := k.same hg h
theorem Blk.lt {w : World} {g : Nat} {t : TypeId} {l : List UInt8} (h : Blk w g t l) : g < w.heap.size := (Array.getElem?_eq_some_iff.1 h).1

theorem wp_alloc72 (hgd : o.guard = none) (ho : o.op = .alloc 185)
    (h : ∀ w', Blk w' w.heap.size 185 zeros → Fr [] w w' → w.heap.size < w'.heap.size → wpList Tryz.prog ops Q rest (a.put o.dst (.pointer (some ⟨w.heap.size, 0, none⟩))) w') : wpList Tryz.prog ops Q (o :: rest) a w :=
  wpList_plain hgd fun K hK => by
    unfold Oper.wp execOp
    simp [ho, run_alloc72 w, Result.andThen]
    exact hK _ _ (h _ (heap_alloc_new w _) ((Fr.refl _ _).alloc _) (by simp))

theorem wp_make512 (hgd : o.guard = none) (ho : o.op = .makeSlice 37 (.const (.int .i64 512)) (.const (.int .i64 512)))
    (h : ∀ w', Blk w' w.heap.size 5 zeros → Fr [] w w' → w.heap.size < w'.heap.size → wpList Tryz.prog ops Q rest (a.put o.dst (.slice (some ⟨w.heap.size, 0, none⟩) 512 512)) w') : wpList Tryz.prog ops Q (o :: rest) a w :=
  wpList_plain hgd fun K hK => by
    unfold Oper.wp execOp
    simp [ho, Act.eval, mk512 w, Result.andThen]
    exact hK _ _ (h _ (heap_alloc_new w _) ((Fr.refl _ _).alloc _) (by simp))

theorem wp_store72 (hgd : o.guard = none) (x y : Operand) (ho : o.op = .store 185 x y) (g : Nat) (l l' : List UInt8) (hx : a.eval x = .pointer (some ⟨g, 0, none⟩)) (hy : a.eval y = .agg (arr l'))
    (hg : Blk w g 185 l) (hl : l.length = 512) (hl' : l'.length = 512)
    (h : ∀ w', Blk w' g 185 l' → Fr [g] w w' → wpList Tryz.prog ops Q rest (a.put o.dst undef) w') : wpList Tryz.prog ops Q (o :: rest) a w :=
  wpList_store_row hgd 185 x y ho g (arr l') hx hy 185 (arr l) hg (by rw [size72, arr_size, hl']) (by rw [arr_size, arr_size, hl, hl']) (arr_all l')
    (h _ (setRow_heap w g _ _ _ _ hg) ⟨rfl, rfl, rfl, by simp, fun i _ hn => setRow_other w g i _ (fun e => hn (by simp [e]))⟩)

theorem wp_load72 (hgd : o.guard = none) (x : Operand) (ho : o.op = .load 185 x) (g : Nat) (l : List UInt8) (hx : a.eval x = .pointer (some ⟨g, 0, none⟩)) (hg : Blk w g 185 l) (hl : l.length = 512)
    (h : wpList Tryz.prog ops Q rest (a.put o.dst (.agg (arr l))) w) : wpList Tryz.prog ops Q (o :: rest) a w :=
  wpList_load_row hgd 185 x ho g hx 185 (arr l) _ _ hg Tryz.underlying185 rfl (by rw [size72, arr_size, hl]) h

/-- copy of a whole block of 512 bytes over another one. -/
theorem wp_copy512 (hgd : o.guard = none) (d s : Operand) (ho : o.op = .call { callee := .builtin .copy, args := #[d, s], argTypes := #[37, 37] }) (g b off c1 c2 : Nat) (t : TypeId) (l l' : List UInt8)
    (hd : a.eval d = .slice (some ⟨g, 0, none⟩) 512 c1) (hs : a.eval s = .slice (some ⟨b, off, none⟩) 512 c2) (hg : Blk w g t l) (hl : l.length = 512) (hl' : l'.length = 512)
    (hsrc : ∀ j v, (arr l').toList[j]? = some v → w.cell? ⟨b, off + j, none⟩ = some v)
    (h : ∀ w', Blk w' g t l' → Fr [g] w w' → wpList Tryz.prog ops Q rest (a.put o.dst (goInt 512)) w') : wpList Tryz.prog ops Q (o :: rest) a w := by
  have hln : (arr l').toList.length = 512 := by simp [arr, hl']
  refine wpList_copy_own hgd d s 37 37 ho 5 Tryz.underlying37 size5 g 0 512 c1 ⟨b, off, none⟩ 512 c2 hd hs (arr l) t hg (arr l').toList (by rw [hln]; rfl) ?_ (by rw [hln, arr_size, hl]; omega) (arr_one l') ?_
  · intro j v hv
    rw [Addr.add_mid]
    exact hsrc j v hv
  · have e : (List.take 0 (arr l).toList ++ ((arr l').toList ++ List.drop (0 + (arr l').toList.length) (arr l).toList)).toArray = arr l' := by
      rw [hln, List.drop_of_length_le (by simp [arr, hl])]
      simp
    rw [e, hln]
    exact h _ (setRow_heap w g _ (arr l') t _ hg) ⟨rfl, rfl, rfl, by simp, fun i _ hn => setRow_other w g i _ (fun e => hn (by simp [e]))⟩

theorem Blk.src {w : World} {g : Nat} {t : TypeId} {l : List UInt8} (h : Blk w g t l) : ∀ j v, (arr l).toList[j]? = some v → w.cell? ⟨g, 0 + j, none⟩ = some v := by
  intro j v hv
  rw [Nat.zero_add, cell_of_row w g j _ _ _ h]
  simpa using hv

/-! ### the maps of blocks -/
theorem wp_look_ok (hgd : o.guard = none) (m x : Operand) (ho : o.op = Op.lookup 178 m x true) (b : Nat) (S : Tab) (k : Int) (hk : (Lit.int .i64 k).wf = true) (hm : a.eval m = .map (some b)) (hx : a.eval x = .int .i64 k) (ht : tabAt w b S)
    (h : wpList Tryz.prog ops Q rest (a.put o.dst (.tuple #[.agg (arr (S.get k)), .bool (S k).isSome])) w) : wpList Tryz.prog ops Q (o :: rest) a w := by
  obtain ⟨D, hown, hs⟩ := ht
  refine wpList_lookup_own_ok w hgd m x 178 ho 3 185 law3 Tryz.underlying178 rdArr (zero72 w) (.held zeros) [] (rdArr_mk zeros_length) b 65536 D hm hown _ _ hx (keyOf_int_mk Tryz.underlying3 hk) ?_
  intro v ps hv
  obtain ⟨l, hl, rfl, hz⟩ := rdArr_inv hv
  rw [hs.atKey] at hz
  simp only [Prod.mk.injEq, DataW.held.injEq] at hz
  rw [← hz.1, hs.has]
  exact h

theorem wp_look (hgd : o.guard = none) (m x : Operand) (ho : o.op = Op.lookup 178 m x false) (b : Nat) (S : Tab) (k : Int) (hk : (Lit.int .i64 k).wf = true) (hm : a.eval m = .map (some b)) (hx : a.eval x = .int .i64 k) (ht : tabAt w b S)
    (h : wpList Tryz.prog ops Q rest (a.put o.dst (.agg (arr (S.get k)))) w) : wpList Tryz.prog ops Q (o :: rest) a w := by
  obtain ⟨D, hown, hs⟩ := ht
  refine wpList_plain hgd fun K' hK' => ?_
  obtain ⟨v, ps, hrun, hv⟩ := hown.lookup law3 Tryz.underlying178 (zero72 w) (rdArr_mk zeros_length) (keyOf_int_mk Tryz.underlying3 hk)
  obtain ⟨l, hl, rfl, hz⟩ := rdArr_inv hv
  rw [hs.atKey] at hz
  simp only [Prod.mk.injEq, DataW.held.injEq] at hz
  unfold Oper.wp
  simp [execOp, ho, hm, hx, hrun, Result.andThen]
  rw [← hz.1]
  exact hK' _ _ h

/-- The store into a table, as a run. -/
theorem run_tab_put {w : World} {b : Nat} {S : Tab} (ht : tabAt w b S) {k : Int} (h0 : 0 ≤ k) (h1 : k < 65536) {l : List UInt8} (hl : l.length = 512) :
    ∃ w', (Instr.mapUpdate 178 (.map (some b)) (.int .i64 k) (.agg (arr l))).run Tryz.prog w = .ok () w' ∧ tabAt w' b (S.put k l) ∧ Fr [b] w w' := by
  obtain ⟨D, hown, hs⟩ := ht
  have hk : (Lit.int .i64 k).wf = true := WalkArith.wf_i64 (by omega)
  obtain ⟨w', hrun, hown', hturn⟩ := hown.store law3 Tryz.underlying178 (by unfold maxLen; omega) (keyOf_int_mk Tryz.underlying3 hk) (rdArr_mk hl)
  have hs' := hs.put hown.isMap hl h0 h1
  exact ⟨w', hrun, ⟨_, owns_small hown' hs', hs'⟩, (Fr.refl _ _).grown hturn.grown (fun j e _ => by simp at e; simp [e])⟩

/-- clear. -/
theorem run_tab_clear {w : World} {b : Nat} {S : Tab} (ht : tabAt w b S) (ty : TypeId) :
    ∃ w', (Builtin.clear_ #[178] ty #[.map (some b)]).run Tryz.prog w = .ok (.tuple #[]) w' ∧ tabAt w' b Tab.none ∧ Fr [b] w w' := by
  obtain ⟨D, ⟨es, clock, hb, F, hn, hD⟩, hs⟩ := ht
  refine ⟨ChangeMaps.setBlock w b (.map #[] clock), ?_, ⟨.map [], ⟨#[], clock, ChangeMaps.heap_setBlock_same hb _, ⟨by simp, MapKept.stamped_empty clock, by simp⟩, by simp, rfl⟩, Says.none⟩, ⟨rfl, rfl, rfl, by simp [ChangeMaps.setBlock], fun i _ hi => ChangeMaps.heap_setBlock_other hb _ (by simpa using hi)⟩⟩
  simp [Builtin.clear_, run_underlying Tryz.underlying178, MapKept.run_getObj_map hb, MapKept.run_setObj_map _ hb, Result.andThen, ChangeMaps.setBlock]

theorem wp_clear (hgd : o.guard = none) (m : Operand) (ho : o.op = Op.call { callee := Callee.builtin Builtin.clear, args := #[m], argTypes := #[178] }) (b : Nat) (S : Tab) (hm : a.eval m = .map (some b)) (ht : tabAt w b S)
    (h : ∀ w', tabAt w' b Tab.none → Fr [b] w w' → wpList Tryz.prog ops Q rest (a.put o.dst (.tuple #[])) w') : wpList Tryz.prog ops Q (o :: rest) a w := by
  refine wpList_plain hgd fun K' hK' => ?_
  obtain ⟨w', hrun, r1, r2⟩ := run_tab_clear ht o.type
  unfold Oper.wp
  simp [execOp, ho, resolve, invoke, builtin, hm, hrun, Result.andThen]
  exact hK' _ _ (h w' r1 r2)

end
end Go.Proofs.YtopaeomjndblkaaGreat.Dv
