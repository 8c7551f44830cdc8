/-
  Copies of both devices; bytes that are turned.
-/
import Derived.Test.YtkenkgfohgmpnaaCLike
import Derived.Shelf.SlMaps.Clone
namespace Go.Proofs.Ytkenkgfohgmpnaa.C
open Go.RowKit Go.Maps

set_option maxHeartbeats 2000000 in
set_option maxRecDepth 100000 in
theorem clone_any (w : World) (b : Nat) (S : Tab) (h : tabAt w b S) :
    Calls Try.prog 45 #[.map (some b)] w fun e w' => e = .returned (.map (some w.heap.size)) ∧ tabAt w' w.heap.size S ∧ Fr [] w w' := by
  obtain ⟨D, ⟨es, clock, hb, r⟩, hs⟩ := h
  have hq := fun w => run_eql_map_nil_sl (P := Try.prog) w 48 _ _ (some b) Try.underlying48
  go_enter Try.func45, Try.ntmps45
  go_wp2
  rw [run_callFunc_extern Try.func55 (by kernel_rfl) (by kernel_rfl) (by kernel_rfl) (e := Extern.MapsClone.clone) (by kernel_rfl), run_maps_clone_sl w 48 hb]
  simp only [Result.andThen]
  rw [Oper.upon_value]
  go_wp2
  rw [run_typeAssert_map_sl _ 48 20 _ _ _ Try.underlying48]
  simp only [Result.andThen]
  rw [Oper.upon_value]
  go_wp2
  go_ret
  exact ⟨rfl, ⟨D, ⟨es, clock, heap_alloc_new w _, r⟩, hs⟩, (Fr.refl _ _).alloc _⟩

set_option maxHeartbeats 2000000 in
set_option maxRecDepth 100000 in
theorem copy_dev {w : World} {p bs bo : Nat} {n a : Int} {dn : Bool} {S O : Tab} (h : Dev w p bs bo n a dn S O) :
    Calls Try.prog 19 #[.pointer (some ⟨p, 0, none⟩)] w fun e w' => ∃ bs' bo', e = .returned (.pointer (some ⟨w.heap.size, 0, none⟩)) ∧ w.heap.size < bs' ∧ w.heap.size < bo' ∧ Dev w' w.heap.size bs' bo' n a dn S O ∧ Fr [] w w' := by
  have c0 := h.cell0
  have c1 := h.cell1
  have c2 := h.cell2
  have c3 := h.cell3
  have c4 := h.cell4
  have hn := h.n1
  have hlt := h.lt
  have hA := heap_alloc_new w (.cells #[.int .i64 n, .bool dn, .int .i64 a, .map (some bs), .map (some bo)] 50)
  have fA : Fr [] w (w.alloc (.cells #[.int .i64 n, .bool dn, .int .i64 a, .map (some bs), .map (some bo)] 50)) := (Fr.refl _ _).alloc _
  have dA := h.alloc (.cells #[.int .i64 n, .bool dn, .int .i64 a, .map (some bs), .map (some bo)] 50)
  have sA : (w.alloc (.cells #[.int .i64 n, .bool dn, .int .i64 a, .map (some bs), .map (some bo)] 50)).heap.size = w.heap.size + 1 := by simp
  have SA : Hid ((w.alloc (.cells #[.int .i64 n, .bool dn, .int .i64 a, .map (some bs), .map (some bo)] 50)).heap.size = w.heap.size + 1) := sA
  clear sA
  go_enter Try.func19, Try.ntmps19
  go_wp2_with (first
    | (go_at_call 42; refine (made_yes _ p n c0 (by omega)).mono ?_; rintro e w1 ⟨rfl, hw1⟩; have hw2 := hw1.symm; subst hw2)
    | (go_at_call_of 45 (#[Value.map (some bs)]); refine (clone_any _ bs S dA.safe).mono ?_; rintro e w5 ⟨rfl, t5, f5⟩; rw [SA.out] at t5 ⊢; have h5 := f5.same (by simp) hA; have q5 := cell_of_row w5 w.heap.size 3 _ _ _ h5; have z5 := frozen_of_row w5 w.heap.size 3 _ _ h5; have d5 := dA.kept f5 (by simp) (by simp) (by simp); have l5 := t5.lt; have f6 : Fr [w.heap.size] w5 (w5.setCell ⟨w.heap.size, 3, none⟩ (.map (some (w.heap.size + 1)))) := (Fr.refl _ _).setCell _ _ (by simp); have h6 := heap_setCell_same w5 w.heap.size 3 _ _ (.map (some (w.heap.size + 1))) h5; have d6 := d5.kept f6 (by simp; omega) (by simp; omega) (by simp; omega); have t6 := t5.kept f6 (by simp); have p6 := d6.cell4)
    | (go_at_call_of 45 (#[Value.map (some bo)]); refine (clone_any _ bo O d6.opn).mono ?_; rintro e w7 ⟨rfl, t7, f7⟩; have h7 := f7.same (by simp) h6; have q7 := cell_of_row w7 w.heap.size 4 _ _ _ h7; have z7 := frozen_of_row w7 w.heap.size 4 _ _ h7; have t8 := t6.kept f7 (by simp)))
  go_ret
  have e6 : (w5.setCell ⟨w.heap.size, 3, none⟩ (.map (some (w.heap.size + 1)))).heap.size = w5.heap.size := by simp [World.setCell]
  rw [e6] at t7
  have f9 : Fr [w.heap.size] w7 (w7.setCell ⟨w.heap.size, 4, none⟩ (.map (some w5.heap.size))) := (Fr.refl _ _).setCell _ _ (by simp)
  refine ⟨w.heap.size + 1, w5.heap.size, rfl, by omega, by omega, ⟨?_, t8.kept f9 (by simp), t7.kept f9 (by simp; omega), by omega, by omega, by omega, h.n1, h.n2, h.a1, h.a2⟩, ?_⟩
  · rw [heap_setCell_same w7 w.heap.size 4 _ _ _ h7]
    rfl
  · have := ((fA.trans f5).then f6 (fun i hi hm => by simp at hm; omega)).trans f7
    exact this.then f9 (fun i hi hm => by simp at hm; omega)

theorem ecells_one (E : List Ent) : ∀ u ∈ ecells E, u.oneCell' = true := by
  intro u hu
  obtain ⟨e, _, hu⟩ := List.mem_flatMap.1 hu
  simp [ecell] at hu
  rcases hu with rfl | rfl | rfl | rfl <;> rfl

section
variable {ops : Array Oper} {rest : List Oper} {o : Oper} {a : Act} {w : World} {Q : Exit → Act → World → Prop}
/-- append of a list of blocks to none. -/
theorem wp_appC (hgd : o.guard = none) (s x : Operand) (ho : o.op = .call { callee := .builtin .append, args := #[s, x], argTypes := #[63, 63] }) (b : Nat) (hs : a.eval s = .slice (some ⟨b, 0, none⟩) 0 0) (hb : w.heap[b]? = some (.cells #[] 76))
    (lv : Value) (E : List Ent) (hx : a.eval x = lv) (hr : w.ownsRow 0 76 4 lv E.length (ecells E)) (hn : E.length ≤ 65536)
    (h : ∀ g cap w', w'.ownsRow 0 76 4 (.slice (some ⟨g, 0, none⟩) E.length cap) E.length (ecells E) → Fr [b] w w' → (g = b ∨ g = w.heap.size) → g < w'.heap.size → wpList Try.prog ops Q rest (a.put o.dst (.slice (some ⟨g, 0, none⟩) E.length cap)) w') : wpList Try.prog ops Q (o :: rest) a w :=
  wpList_plain hgd fun K hK => by
    obtain ⟨i, hi, hz, hsz, hby⟩ := info76'
    have hown : w.ownsRow 0 76 4 (.slice (some ⟨b, 0, none⟩) 0 0) 0 [] := ⟨rfl, Or.inr ⟨b, 0, #[], rfl, Nat.zero_le _, hb, Nat.le_refl _, Nat.zero_le _, rfl, rfl⟩⟩
    have hbl : b < w.heap.size := (Array.getElem?_eq_some_iff.1 hb).1
    rcases hr.2 with ⟨rfl, h0⟩ | ⟨g0, cap0, cur, rfl, r⟩
    · have hE : E = [] := List.eq_nil_of_length_eq_zero h0
      subst hE
      have hrun : (Builtin.append_ #[63, 63] o.type #[.slice (some ⟨b, 0, none⟩) 0 0, .slice none 0 0]).run Try.prog w = .ok (.slice (some ⟨b, 0, none⟩) 0 0) w := by
        simp [Builtin.append_, run_underlying Try.underlying63, sizeOf, typeInfo, hi, Builtin.lenOf, Builtin.firstCells, loadCells, loadCellsFrom, storeCells, Result.andThen]
      unfold Oper.wp execOp
      simp [ho, resolve, invoke, builtin, hs, hx, hrun, Result.andThen]
      exact hK _ _ (h b 0 w hown (Fr.refl _ _) (Or.inl rfl) hbl)
    · obtain ⟨v', w', hrun, h2, h3, h4, h5⟩ := run_append_own_at (P := Try.prog) w 0 63 o.type 76 i _ 4 64 Try.underlying63 hi hz hsz hby rfl (by omega) _ 0 [] hown ⟨g0, 0, none⟩ E.length cap0 (ecells E) (ecells_length E) (hr.cells (g := g0) rfl) (ecells_one E) (by unfold maxLen; omega) (by omega) (Nat.zero_le _)
      rw [Nat.zero_add, List.nil_append] at h2
      obtain ⟨g, cap, rfl⟩ : ∃ g cap, v' = .slice (some ⟨g, 0, none⟩) E.length cap := by
        rcases h2.2 with ⟨e, _⟩ | ⟨g, cap, cur, e, _⟩
        · exact absurd (h4.1 e).1 (by simp)
        · exact ⟨g, cap, e⟩
      have hg : g = b ∨ g = w.heap.size := by
        rcases h5 with e | e
        · exact Or.inl (by simpa [Value.ownBlock] using e)
        · exact Or.inr (by simpa [Value.ownBlock] using e)
      unfold Oper.wp execOp
      simp [ho, resolve, invoke, builtin, hs, hx, hrun, Result.andThen]
      exact hK _ _ (h g cap w' h2 ((Fr.refl _ _).grown h3 (fun j e _ => by simp [Value.ownBlock] at e; simp [e])) hg (h2.lt g rfl).2)
end

set_option maxHeartbeats 2000000 in
set_option maxRecDepth 100000 in
theorem rcopy_form {w : World} {r : Nat} {ad : Option Addr} {m c : Nat} {N a : Int} {off : Bool} {E : List Ent} (h : RDev w r (.slice ad m c) N a off E) :
    Calls Try.prog 20 #[.pointer (some ⟨r, 0, none⟩)] w fun e w' => ∃ lv', e = .returned (.pointer (some ⟨w.heap.size, 0, none⟩)) ∧ (∀ x, lv'.ownBlock = some x → w.heap.size < x) ∧ RDev w' w.heap.size lv' N a off E ∧ Fr [] w w' := by
  have c0 := h.cell0
  have c1 := h.cell1
  have c2 := h.cell2
  have c3 := h.cell3
  have hlt := h.lt
  have hfew := h.few
  have hA := heap_alloc_new w (.cells #[.int .i64 N, .slice ad m c, .int .i64 a, .bool off] 65)
  have fA : Fr [] w (w.alloc (.cells #[.int .i64 N, .slice ad m c, .int .i64 a, .bool off] 65)) := (Fr.refl _ _).alloc _
  have hB := heap_alloc_new (w.alloc (.cells #[.int .i64 N, .slice ad m c, .int .i64 a, .bool off] 65)) (.cells #[] 76)
  have fB : Fr [] w ((w.alloc (.cells #[.int .i64 N, .slice ad m c, .int .i64 a, .bool off] 65)).alloc (.cells #[] 76)) := fA.alloc _
  have hA2 := ((Fr.refl [] (w.alloc (.cells #[.int .i64 N, .slice ad m c, .int .i64 a, .bool off] 65))).alloc (.cells #[] 76)).same (by simp) hA
  have sA : (w.alloc (.cells #[.int .i64 N, .slice ad m c, .int .i64 a, .bool off] 65)).heap.size = w.heap.size + 1 := by simp
  have sB : ((w.alloc (.cells #[.int .i64 N, .slice ad m c, .int .i64 a, .bool off] 65)).alloc (.cells #[] 76)).heap.size = w.heap.size + 2 := by simp
  rw [sA] at hB
  have SB : Hid (((w.alloc (.cells #[.int .i64 N, .slice ad m c, .int .i64 a, .bool off] 65)).alloc (.cells #[] 76)).heap.size = w.heap.size + 2) := sB
  have rB := (h.kept fB (by simp)).row
  clear sA sB
  go_enter Try.func20, Try.ntmps20
  go_wp2_with (refine wp_appC rfl _ _ rfl (w.heap.size + 1) rfl hB _ E rfl rB (by omega) ?_; intro g cap w5 o5 f5 at5 lt5; have h5 := f5.same (by simp) hA2; have q5 := cell_of_row w5 w.heap.size 1 _ _ _ h5; have z5 := frozen_of_row w5 w.heap.size 1 _ _ h5)
  go_ret
  rw [SB.out] at at5
  have f6 : Fr [w.heap.size] w5 (w5.setCell ⟨w.heap.size, 1, none⟩ (.slice (some ⟨g, 0, none⟩) E.length cap)) := (Fr.refl _ _).setCell _ _ (by simp)
  have fW : Fr [] w w5 := fB.then f5 (fun i hi hm => by simp at hm; omega)
  have fZ : Fr [] w (w5.setCell ⟨w.heap.size, 1, none⟩ (.slice (some ⟨g, 0, none⟩) E.length cap)) := fW.then f6 (fun i hi hm => by simp at hm; omega)
  refine ⟨.slice (some ⟨g, 0, none⟩) E.length cap, rfl, ?_, ⟨?_, ?_, ?_, ?_, ?_, h.nd, h.n1, h.n2, h.a1, h.a2⟩, fZ⟩
  · intro x hx
    have : g = x := by simpa [Value.ownBlock] using hx
    omega
  · rw [heap_setCell_same w5 w.heap.size 1 _ _ _ h5]
    rfl
  · exact ownsRow_kept o5 f6 (fun x hx => by have : g = x := by simpa [Value.ownBlock] using hx
                                             simp; omega)
  · exact fun e he => (h.ents e he).kept fZ (by simp) (by simp)
  · intro e he
    have := (h.ents e he).lt
    refine ⟨by omega, by omega, ?_, ?_⟩
    · intro e2
      have : g = e.lg := by simpa [Value.ownBlock] using e2
      omega
    · intro e2
      have : g = e.sg := by simpa [Value.ownBlock] using e2
      omega
  · intro e2
    have : g = w.heap.size := by simpa [Value.ownBlock] using e2
    omega

theorem rcopy_dev {w : World} {r : Nat} {lv : Value} {N a : Int} {off : Bool} {E : List Ent} (h : RDev w r lv N a off E) :
    Calls Try.prog 20 #[.pointer (some ⟨r, 0, none⟩)] w fun e w' => ∃ lv', e = .returned (.pointer (some ⟨w.heap.size, 0, none⟩)) ∧ (∀ x, lv'.ownBlock = some x → w.heap.size < x) ∧ RDev w' w.heap.size lv' N a off E ∧ Fr [] w w' := by
  rcases h.row.2 with ⟨rfl, _⟩ | ⟨g, cap, cur, rfl, _⟩
  · exact rcopy_form h
  · exact rcopy_form h

set_option maxHeartbeats 2000000 in
set_option maxRecDepth 100000 in
theorem turn_any (w : World) (g c : Nat) (l : List UInt8) (hl : l.length = 512) (hg : Blk w g 5 l) :
    Calls Try.prog 22 #[.slice (some ⟨g, 0, none⟩) 512 c] w fun e w' => e = .returned (.tuple #[]) ∧ (∃ cur, w'.heap[g]? = some (.cells cur 5) ∧ cur.size = 512) ∧ Fr [g] w w' := by
  go_enter Try.func22, Try.ntmps22
  go_wp2_with go_in
  go_loopw [2] (fun iv wr => ∃ (i : Nat) (cur : Array Value), i ≤ 512 ∧ iv = .int .i64 i ∧ wr.heap[g]? = some (.cells cur 5) ∧ cur.size = 512 ∧ (∀ j, i ≤ j → cur[j]? = (arr l)[j]?) ∧ Fr [g] w wr) (fun iv _ => 512 - (intOf iv).toNat)
  case atStart => exact ⟨0, arr l, by omega, rfl, hg, by rw [arr_size, hl], fun _ _ => rfl, Fr.refl _ _⟩
  case round =>
    obtain ⟨i, cur, hi, rfl, hc, hs, hj, fr⟩ := hrel
    have hi0 : (0 : Int) ≤ (i : Int) := by omega
    by_cases hlt : i < 512
    · have hlt' : (i : Int) < 512 := by omega
      have hcell := cell_of_row wr g i _ _ _ hc
      rw [hj i (Nat.le_refl _)] at hcell
      have hx : (arr l)[i]? = some (.int .u8 ((l[i]'(by omega)).toNat : Nat)) := by simp [arr, hl, hlt]
      rw [hx] at hcell
      have hfz := frozen_of_row wr g i _ _ hc
      have HJ : Hid (∀ j, i ≤ j → cur[j]? = (arr l)[j]?) := hj
      clear hj hx
      go_wp2_with go_in
      refine ⟨⟨i + 1, _, by omega, by go_num, heap_setCell_same wr g i _ _ _ hc, by simpa using hs, ?_, fr.setCell _ _ (by simp)⟩, by simp [intOf]; omega⟩
      intro j h
      rw [Array.getElem?_setIfInBounds_ne (by omega)]
      exact HJ.out j (by omega)
    · obtain rfl : i = 512 := by omega
      clear hj
      go_wp2_with go_in
      go_end0
      exact ⟨rfl, ⟨cur, hc, hs⟩, fr⟩

end Go.Proofs.Ytkenkgfohgmpnaa.C
