/-
  end, stretch.
-/
import Derived.Test.YtdfgmdddnehocabGreatDoorTNone
import Derived.Test.YtdfgmdddnehocabGreatDoorTAx
import Derived.Deep.AppendLies
namespace Go.Proofs.YtdfgmdddnehocabGreatDoor
open Go.RowKit Go.Maps Go.Lib

set_option maxHeartbeats 4000000 in
set_option maxRecDepth 100000 in
theorem end_any (w : World) (b off c : Nat) (t : List Nd) (hN : NodesIn w b off t) (hl : t.length ≤ 16384) (k : Nat) (hk : k < t.length) :
    Calls Tryz.prog 20 #[.slice (some ⟨b, off, none⟩) t.length c, .int .i64 (k : Int)] w fun e w' => e = .returned (.int .i64 (endOf t k : Nat)) ∧ Fr [] w w' := by
  have E := endOf_is (t := t) (k := (k : Int)) (by omega) (by omega)
  obtain ⟨e, he⟩ : ∃ e, endOf t k = e := ⟨_, rfl⟩
  rw [he] at E ⊢
  have HE := Hid.mk E
  have HN := Hid.mk hN
  have hgt := E.gt
  have hle := E.le
  clear he hN E
  go_enter Tryz.func20, Tryz.ntmps20
  go_wp2
  go_loopw [5] (fun s5 wr => ∃ i : Nat, s5 = .int .i64 (i : Int) ∧ wr = w ∧ k < i ∧ i ≤ e) (fun s5 _ => t.length - (RowKit.intOf s5).toNat)
  case atStart => exact ⟨k + 1, by go_num, rfl, by omega, by omega⟩
  case round =>
    obtain ⟨i, rfl, rfl, hki, hie⟩ := hrel
    have hi0 : (0 : Int) ≤ (i : Int) := by omega
    by_cases hlt : i < e
    · have hp : (k : Int) ≤ par t i := HE.out.all i (by omega) hlt
      have hil : (i : Int) < (t.length : Int) := by omega
      obtain ⟨c0, c1, c2, c3⟩ := HN.out i (by omega)
      generalize par t i = p at c3 hp
      clear c0 c1 c2
      go_wp2
      exact ⟨⟨i + 1, by go_num, trivial, by omega, by omega⟩, by simp [RowKit.intOf]; omega⟩
    · obtain rfl : i = e := by omega
      by_cases hil : i < t.length
      · have hp : par t i < (k : Int) := HE.out.stop hil
        have hil' : (i : Int) < (t.length : Int) := by omega
        obtain ⟨c0, c1, c2, c3⟩ := HN.out i (by omega)
        have hp' : ¬ (k : Int) ≤ par t i := by omega
        generalize par t i = p at c3 hp hp'
        clear c0 c1 c2
        go_wp2
        go_ret
        exact ⟨rfl, Fr.refl _ _⟩
      · have hil' : decide ((i : Int) < (t.length : Int)) = false := decide_eq_false (by omega)
        go_wp2
        go_ret
        exact ⟨rfl, Fr.refl _ _⟩

/-! ### rows of numbers that are owned -/
abbrev encI (i : Nat) : Value := .int .i64 (i : Int)
theorem info3' : ∃ i, Tryz.prog.info? 3 = some i ∧ i.zero = some (.int .i64 0) ∧ i.size = 1 ∧ i.bytes = 8 := by
  have h : (Tryz.prog.info? 3).map (fun i => (i.zero, i.size, i.bytes)) = some (some (.int .i64 0), 1, 8) := by kernel_rfl
  cases hi : Tryz.prog.info? 3 with
  | none => rw [hi] at h; cases h
  | some i =>
    rw [hi] at h
    simp at h
    exact ⟨i, rfl, h.1, h.2.1, h.2.2⟩
/-- New numbers, since a world. -/
def Ints (w0 w : World) (v : Value) (l : List Nat) : Prop := w.ownsRow w0.heap.size 3 1 v l.length (l.map encI)
theorem Ints.nil (w0 w : World) : Ints w0 w (.slice none 0 0) [] := World.ownsRow_nil w _ 3 1
theorem Ints.shape {w0 w : World} {v : Value} {l : List Nat} (h : Ints w0 w v l) : ∃ ad cap, v = .slice ad l.length cap ∧ (ad = none → l = []) := by
  rcases h.2 with ⟨rfl, hn⟩ | ⟨g, cap, cur, rfl, r⟩
  · exact ⟨none, 0, by rw [hn], fun _ => List.eq_nil_of_length_eq_zero hn⟩
  · exact ⟨_, cap, rfl, fun e => nomatch e⟩
theorem Ints.kept {w0 w w' : World} {v : Value} {l : List Nat} {L : List Nat} (h : Ints w0 w v l) (k : Fr L w w') (hL : ∀ g, v.ownBlock = some g → g ∉ L) : Ints w0 w' v l := by
  obtain ⟨h1, h2⟩ := h
  refine ⟨h1, ?_⟩
  rcases h2 with hn | ⟨g, cap, cur, rfl, hb, hg, r⟩
  · exact Or.inl hn
  · exact Or.inr ⟨g, cap, cur, rfl, hb, k.same (hL g rfl) hg, r⟩
theorem Ints.kept0 {w0 w w' : World} {v : Value} {l : List Nat} (h : Ints w0 w v l) (k : Fr [] w w') : Ints w0 w' v l := h.kept k (by simp)
theorem Ints.from {w0 w1 w : World} {v : Value} {l : List Nat} (h : Ints w1 w v l) (k : Fr [] w0 w1) : Ints w0 w v l := by
  obtain ⟨h1, h2⟩ := h
  refine ⟨h1, ?_⟩
  rcases h2 with hn | ⟨g, cap, cur, rfl, hb, r⟩
  · exact Or.inl hn
  · exact Or.inr ⟨g, cap, cur, rfl, Nat.le_trans k.size hb, r⟩
theorem Ints.at {w0 w : World} {v : Value} {l : List Nat} (h : Ints w0 w v l) {i : Nat} (hi : i < l.length) : ∃ g cap, v = .slice (some ⟨g, 0, none⟩) l.length cap ∧ w0.heap.size ≤ g ∧ w.cell? ⟨g, i, none⟩ = some (encI (l.getD i 0)) := by
  rcases h.2 with ⟨_, hn⟩ | ⟨g, cap, cur, rfl, hb, hg, hnc, _, hcs, ht⟩
  · omega
  · refine ⟨g, cap, rfl, hb, ?_⟩
    rw [cell_of_row w g i _ _ _ hg]
    have : (l.map encI)[i]? = some (encI (l.getD i 0)) := by simp [hi]
    rw [← this, ← ht, List.getElem?_take, if_pos (by omega)]
    simp
theorem cell_new1 (w : World) (x : Value) (T : TypeId) : (w.alloc (.cells #[x] T)).cell? ⟨w.heap.size, 0, none⟩ = some x := by
  rw [cell_of_row _ _ 0 _ _ _ (heap_alloc_new w _)]
  rfl
section
variable {ops : Array Oper} {rest : List Oper} {o : Oper} {a : Act} {w : World} {Q : Exit → Act → World → Prop}
theorem wp_appI (hgd : o.guard = none) (s y : Operand) (ho : o.op = .call { callee := .builtin .append, args := #[s, y], argTypes := #[29, 29] }) (w0 : World) (v : Value) (l : List Nat) (hs : a.eval s = v) (hown : Ints w0 w v l) (hw : w0.heap.size ≤ w.heap.size)
    (b c x : Nat) (hy : a.eval y = .slice (some ⟨b, 0, none⟩) 1 c) (hx : w.cell? ⟨b, 0, none⟩ = some (encI x)) (hm : l.length + 1 ≤ 16777216)
    (h : ∀ v' w', Ints w0 w' v' (l ++ [x]) → Fr [] w0 w → Fr [] w0 w' → wpList Tryz.prog ops Q rest (a.put o.dst v') w') (f0 : Fr [] w0 w) : wpList Tryz.prog ops Q (o :: rest) a w :=
  wpList_plain hgd fun K hK => by
    obtain ⟨i, hi, hz, hsz, hb⟩ := info3'
    obtain ⟨g, cap, w', hrun, h2, h3, h5, h6⟩ := run_append_lies (P := Tryz.prog) w 29 o.type w0.heap.size 3 i (.int .i64 0) 1 8 Tryz.underlying29 hi hz hsz hb rfl (by omega) v l.length (l.map encI) hown ⟨b, 0, none⟩ 1 c [encI x] (by simp) (by intro j u hj; cases j with | zero => (simp at hj; subst hj; rw [Addr.add_mid]; simpa using hx) | succ j => simp at hj) (by intro u hu; simp at hu; subst hu; rfl) (by omega) (by unfold maxLen; omega) (by omega) hw _ rfl
    unfold Oper.wp execOp
    simp [ho, resolve, invoke, builtin, hs, hy, hrun, Result.andThen]
    refine hK _ _ (h _ _ ?_ f0 (f0.grown h3 (fun j e hj => ?_)))
    · show w'.ownsRow w0.heap.size 3 1 _ (l ++ [x]).length ((l ++ [x]).map encI)
      rw [List.length_append, List.map_append]
      exact h2
    · have := (hown.lt j e).1
      omega
end
end Go.Proofs.YtdfgmdddnehocabGreatDoor
