/-
  append of noughts (append(out, make([]byte, n)...)) to a row of bytes of one's own.
-/
import Derived.Test.YtlfpoeimgoikkaaGCopy
namespace Go.Proofs.Ytlfpoeimgoikkaa
open Go.RowKit Go.Maps

theorem zeroCells_zs (m : Nat) : Builtin.zeroCells (Value.int .u8 0).cells m = arr (zs m) := by
  apply Array.ext'
  simp [Builtin.zeroCells, arr, zs, Value.cells]
  apply List.ext_getElem
  · simp
  · intro i h1 h2
    simp [Nat.mod_one]

section
variable {ops : Array Oper} {rest : List Oper} {o : Oper} {a : Act} {w : World} {Q : Exit → Act → World → Prop}
set_option maxRecDepth 100000 in
theorem run_appZ (ty : TypeId) (w0 : World) (g n cap k : Nat) (xs : List Value) (hown : Own w0 w (.slice (some ⟨g, 0, none⟩) n cap) n xs) (hk : n + k ≤ 1000000) :
    ∃ v' w', (Builtin.append_ #[22, 3] ty #[.slice (some ⟨g, 0, none⟩) n cap, .int .i64 (k : Int)]).run Try.prog w = .ok v' w' ∧ Own w0 w' v' (n + k) (xs ++ (arr (zs k)).toList) := by
  obtain ⟨i, hi, hz, hs, hb⟩ := info5'
  have hw : IntKind.i64.wrap (k : Int) = k := by
    unfold IntKind.wrap
    simp [IntKind.signed, IntKind.bits]
    omega
  have h0 : ¬ (k : Int) < 0 := by omega
  have h48 : ¬ (281474976710656 : Int) < (k : Int) := by omega
  have hlz : (arr (zs k)).toList.length = k := by simp [arr, zs_length]
  have hxl : xs.length = n := by have := hown.1.1; omega
  rcases hown.1.2 with ⟨e, _⟩ | ⟨g', cap', cur, e, hbg, hg, hnc, hcm, hcs, htake⟩
  · cases e
  · cases e
    have hzc : (if k = 0 then #[] else Builtin.zeroCells (Value.int .u8 0).cells k) = arr (zs k) := by
      rw [zeroCells_zs]
      split
      · next e => subst e; rfl
      · rfl
    by_cases hroom : n + k ≤ cap
    · have hst := run_storeCells_at Try.prog g n 5 (arr (zs k)).toList 0 cur w hg (by rw [hlz, hcs]; omega) (arr_one _)
      simp only [Nat.add_zero] at hst
      have hrun : (Builtin.append_ #[22, 3] ty #[.slice (some ⟨g, 0, none⟩) n cap, .int .i64 (k : Int)]).run Try.prog w = .ok (.slice (some ⟨g, 0, none⟩) (n + k) cap) (w.setRow g (List.take n cur.toList ++ (arr (zs k)).toList ++ List.drop (n + (arr (zs k)).toList.length) cur.toList).toArray) := by
        generalize (List.take n cur.toList ++ (arr (zs k)).toList ++ List.drop (n + (arr (zs k)).toList.length) cur.toList).toArray = A at hst ⊢
        by_cases hk0 : k = 0
        · subst hk0
          have ha : (arr (zs 0)).toList = [] := rfl
          rw [ha] at hst
          have hw0 : IntKind.i64.wrap 0 = 0 := rfl
          have hr0 : n ≤ cap := hroom
          simp [hw0, hr0, Builtin.append_, run_underlying Try.underlying22, run_underlying Try.underlying3, sizeOf, typeInfo, hi, hs, hb, hz, zeroValue, asInt, asIntOf, Addr.add_lit, hst]
        · have ha : (Builtin.zeroCells (Value.int .u8 0).cells k).toList = (arr (zs k)).toList := by rw [zeroCells_zs]
          simp [Builtin.append_, run_underlying Try.underlying22, run_underlying Try.underlying3, sizeOf, typeInfo, hi, hs, hb, hz, zeroValue, asInt, asIntOf, hw, h0, h48, hk0, hroom, Addr.add_lit, ha, hst]
      refine ⟨_, _, hrun, ⟨⟨by rw [List.length_append, hxl, hlz]; omega, Or.inr ⟨g, cap, _, rfl, hbg, setRow_heap w g cur _ 5 _ hg, hroom, hcm, ?_, ?_⟩⟩, hown.2.then (M := [g]) ⟨rfl, rfl, rfl, by simp, fun j hj hn => setRow_other w g j _ (fun e => hn (by simp [e]))⟩ (fun j hj hm => by simp at hm; omega)⟩⟩
      · simp only [List.size_toArray, List.length_append, List.length_take, List.length_drop, Array.length_toList, hlz]
        omega
      · have h9 : cur.toList.take n = xs := by simpa using htake
        rw [h9]
        rw [List.take_append_of_le_length (by rw [List.length_append, hxl, hlz]; omega)]
        exact List.take_of_length_le (by rw [List.length_append, hxl, hlz]; omega)
    · have h63 : ¬ (9223372036854775807 < (n : Int) + (k : Int)) := by omega
      have hfit := growslice_fits (need := n + k) (old := cap) (by omega) (show (n + k) * 1 ≤ 140737488355328 by omega)
      rw [Nat.mul_one] at hfit
      have hfit' : ¬ (281474976710656 < Builtin.nextslicecap (n + k) cap) := by omega
      have holds : ∀ j u, xs[j]? = some u → w.cell? ((⟨g, 0, none⟩ : Addr).add j) = some u := hown.1.cells (g := g) rfl
      have hfo := run_firstCells_some (P := Try.prog) w.drew 1 n ⟨g, 0, none⟩ n cap xs (by omega) (by simpa using holds)
      have hrun : (Builtin.append_ #[22, 3] ty #[.slice (some ⟨g, 0, none⟩) n cap, .int .i64 (k : Int)]).run Try.prog w = .ok (.slice (some ⟨w.heap.size, 0, none⟩) (n + k) (grownCap w (n + k) cap 5)) (w.drew.alloc (.cells (xs.toArray ++ arr (zs k) ++ Builtin.zeroCells (Value.int .u8 0).cells (grownCap w (n + k) cap 5 - (n + k))) 5)) := by
        have hk0 : k ≠ 0 := by omega
        have ha := zeroCells_zs k
        simp [Builtin.append_, run_underlying Try.underlying22, run_underlying Try.underlying3, sizeOf, typeInfo, hi, hs, hb, hz, zeroValue, asInt, asIntOf, hw, h0, h48, hk0, hroom, h63, hfit', Question.forced, hfo, ha, newRow, grownCap]
      have hge := grownCap_ge w (n + k) cap 5
      have hcm2 : grownCap w (n + k) cap 5 ≤ maxLen := grownCap_le_maxLen w (n + k) cap 5 (by unfold maxLen; omega)
      refine ⟨_, _, hrun, ⟨⟨by rw [List.length_append, hxl, hlz]; omega, Or.inr ⟨w.heap.size, _, _, rfl, hown.2.size, heap_alloc_new w.drew _, hge, hcm2, ?_, ?_⟩⟩, hown.2.drew.alloc _⟩⟩
      · simp only [Array.size_append, List.size_toArray, size_zeroCells, arr_size, zs_length, hxl]
        show n + k + (grownCap w (n + k) cap 5 - (n + k)) * 1 = _
        omega
      · simp only [Array.toList_append, List.append_assoc]
        rw [← List.append_assoc, List.take_append_of_le_length (by rw [List.length_append, hxl, hlz]; omega)]
        exact List.take_of_length_le (by rw [List.length_append, hxl, hlz]; omega)

theorem wp_appZ (hgd : o.guard = none) (s x : Operand) (ho : o.op = .call { callee := .builtin .append, args := #[s, x], argTypes := #[22, 3] }) (w0 : World) (g n cap k : Nat) (xs : List Value) (hs : a.eval s = .slice (some ⟨g, 0, none⟩) n cap) (hown : Own w0 w (.slice (some ⟨g, 0, none⟩) n cap) n xs)
    (hx : a.eval x = .int .i64 (k : Int)) (hk : n + k ≤ 1000000)
    (h : ∀ v' w', Own w0 w' v' (n + k) (xs ++ (arr (zs k)).toList) → wpList Try.prog ops Q rest (a.put o.dst v') w') : wpList Try.prog ops Q (o :: rest) a w :=
  wpList_plain hgd fun K hK => by
    obtain ⟨v', w', hrun, hown'⟩ := run_appZ o.type w0 g n cap k xs hown hk
    unfold Oper.wp execOp
    simp [ho, resolve, invoke, builtin, hs, hx, hrun, Result.andThen]
    exact hK _ _ (h _ _ hown')
end
end Go.Proofs.Ytlfpoeimgoikkaa
