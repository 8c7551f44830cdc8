/-
  A writer: a strings.Builder in a block of its own: what is written so far.
-/
import Derived.Test.YtjdcfaaoicnajaaDoorTBox
import Derived.Lib.Builder
import Derived.Lib.UnsafeStr
import Derived.Lib.AppendStr
import Derived.Shelf.RegionOpenPlain
namespace Go.Proofs.YtjdcfaaoicnajaaDoor
open Go.RowKit Go.Maps Go.Lib

/-! ### appending a string: where the row lies then -/
theorem app_lies (w : World) (base : Nat) (ad : Option Addr) (n cap : Nat) (l : List UInt8) (h : w.ownsRow base 5 1 (.slice ad n cap) n (arr l).toList) (s : ByteArray) (hm : n + s.size ≤ 140737488355328) (hb : base ≤ w.heap.size) (hnil : l = [] → ad = none) (ty : TypeId) :
    ∃ ad' cap' w', (Builtin.append_ #[34, 9] ty #[.slice ad n cap, .string s]).run Tryd.prog w = .ok (.slice ad' (n + s.size) cap') w' ∧ w'.ownsRow base 5 1 (.slice ad' (n + s.size) cap') (n + s.size) (arr (l ++ bl s)).toList ∧ w.grownBy w' (Value.slice ad n cap).ownBlock ∧ ((Value.slice ad' (n + s.size) cap').ownBlock = (Value.slice ad n cap).ownBlock ∨ ∃ g, (Value.slice ad' (n + s.size) cap').ownBlock = some g ∧ w.heap.size ≤ g) ∧ (l ++ bl s = [] → ad' = none) := by
  obtain ⟨i, hi, hz, hsz, hby⟩ := info5'
  obtain ⟨v', w', hrun, h2, h3, h4⟩ := run_append_own_string (P := Tryd.prog) w base 34 9 ty 5 i Tryd.underlying34 Tryd.underlying9 hi hz hsz hby (.slice ad n cap) n (arr l).toList h s (by unfold maxLen; omega) hm hb
  have e0 : (arr l).toList ++ strCells s = (arr (l ++ bl s)).toList := by rw [← arr_append]; simp [strCells, arr, bl]
  rw [e0] at h2
  have hl : l.length = n := by have := h.1; simpa [arr] using this
  rcases h.2 with ⟨e, hn⟩ | ⟨g, cap2, cur, e, hbg, hg, hnc, hcm, hcs, ht⟩
  · cases e
    by_cases hs : s.size = 0
    · have hv : v' = .slice none 0 0 := h4.2 ⟨rfl, hs⟩
      subst hv
      refine ⟨none, 0, w', ?_, ?_, h3, Or.inl rfl, fun _ => rfl⟩
      · rw [hs]; exact hrun
      · rw [hs] at h2 ⊢; exact h2
    · have h5 := run_append_nil_string (P := Tryd.prog) (w := w) 34 9 ty 5 i _ Tryd.underlying34 Tryd.underlying9 hi hz s (by omega) (by omega) (by rw [hby]; omega)
      rw [h5] at hrun
      cases hrun
      rw [Nat.zero_add] at h2 ⊢
      exact ⟨_, _, _, h5, h2, h3, Or.inr ⟨w.heap.size, rfl, Nat.le_refl _⟩, fun e => absurd (show s.size = 0 from by have h6 := (List.append_eq_nil_iff.1 e).2; rw [← bl_length, h6]; rfl) hs⟩
  · cases e
    have hne : ¬ l ++ bl s = [] := fun e => by
      have h6 : l = [] := (List.append_eq_nil_iff.1 e).1
      have := hnil h6
      cases this
    by_cases hr : n + s.size ≤ cap
    · have h5 := run_append_room_string (P := Tryd.prog) (w := w) 34 9 ty 5 i Tryd.underlying34 Tryd.underlying9 hi hsz g n cap cur hg s hr (by omega)
      rw [h5] at hrun
      cases hrun
      exact ⟨_, _, _, h5, h2, h3, Or.inl rfl, fun e => absurd e hne⟩
    · have h5 := run_append_grow_string (P := Tryd.prog) (w := w) 34 9 ty 5 i _ Tryd.underlying34 Tryd.underlying9 hi hz ⟨g, 0, none⟩ n cap (arr l).toList (by rw [hsz]; simp [arr, hl]) (fun j v hv => by
          rw [Addr.add_mid, Nat.zero_add, cell_of_row w g j _ _ _ hg]
          have hj : j < n := by have := (List.getElem?_eq_some_iff.1 hv).1; simpa [arr, hl] using this
          rw [← ht, List.getElem?_take, if_pos (by omega)] at hv
          simpa using hv) s (by omega) (by omega) (by
          rw [hby]
          exact growslice_fits (by omega) (by omega))
      rw [h5] at hrun
      cases hrun
      exact ⟨_, _, _, h5, h2, h3, Or.inr ⟨w.heap.size, rfl, Nat.le_refl _⟩, fun e => absurd e hne⟩

/-! ### a writer -/
/-- A writer at block b, new since w0, with what is written; the blocks of S are not its own. -/
structure WOf (w0 w : World) (b : Nat) (S : List Nat) (l : List UInt8) (p : Value) (ad : Option Addr) (n cap : Nat) : Prop where
  ptr : p = .pointer none ∨ p = .pointer (some ⟨b, 0, none⟩)
  heap : w.heap[b]? = some (.cells #[p, .slice ad n cap] 47)
  own : w.ownsRow w0.heap.size 5 1 (.slice ad n cap) n (arr l).toList
  ne : (Value.slice ad n cap).ownBlock ≠ some b
  nb : w0.heap.size ≤ b
  nil : l = [] → ad = none
  fr : Fr [] w0 w
  safe : ∀ k ∈ S, k < w.heap.size ∧ k ≠ b ∧ (Value.slice ad n cap).ownBlock ≠ some k
def WAt (w0 w : World) (b : Nat) (S : List Nat) (l : List UInt8) : Prop := ∃ p ad n cap, WOf w0 w b S l p ad n cap
/-- The blocks of S are as they were. -/
def Keep (S : List Nat) (w w' : World) : Prop := ∀ k ∈ S, w'.heap[k]? = w.heap[k]?
theorem Keep.refl (S : List Nat) (w : World) : Keep S w w := fun _ _ => rfl
theorem Keep.trans {S : List Nat} {a b c : World} (h : Keep S a b) (g : Keep S b c) : Keep S a c := fun k hk => (g k hk).trans (h k hk)
theorem Keep.sub {S T : List Nat} {a b : World} (h : Keep S a b) (hs : ∀ k ∈ T, k ∈ S) : Keep T a b := fun k hk => h k (hs k hk)
theorem Keep.of_fr {S : List Nat} {a b : World} (h : Fr [] a b) (hs : ∀ k ∈ S, k < a.heap.size) : Keep S a b := fun k hk => h.block k (hs k hk) (by simp)
namespace WOf
variable {w0 w : World} {b : Nat} {S : List Nat} {l : List UInt8} {p : Value} {ad : Option Addr} {n cap : Nat}
theorem c0 (h : WOf w0 w b S l p ad n cap) : w.cell? ⟨b, 0, none⟩ = some p := by rw [cell_of_row w b 0 _ _ _ h.heap]; rfl
theorem c1 (h : WOf w0 w b S l p ad n cap) : w.cell? ⟨b, 1, none⟩ = some (.slice ad n cap) := by rw [cell_of_row w b 1 _ _ _ h.heap]; rfl
theorem fz (h : WOf w0 w b S l p ad n cap) (j : Nat) : w.frozen? ⟨b, j, none⟩ = false := frozen_of_row w b j _ _ h.heap
theorem shape (h : WOf w0 w b S l p ad n cap) : w.shape? b = some (47, 2) := by simp [World.shape?, h.heap]
theorem lt (h : WOf w0 w b S l p ad n cap) : b < w.heap.size := (Array.getElem?_eq_some_iff.1 h.heap).1
theorem len (h : WOf w0 w b S l p ad n cap) : l.length = n := by have := h.own.1; simpa [arr] using this
theorem lt' (h : WOf w0 w b S l p ad n cap) : ∀ k ∈ S, k < w.heap.size := fun k hk => (h.safe k hk).1
end WOf
theorem own_keptW {w w' : World} {B : Nat} {v : Value} {n : Nat} {xs : List Value} {L : List Nat} (h : w.ownsRow B 5 1 v n xs) (k : Fr L w w') (hL : ∀ g, v.ownBlock = some g → g ∉ L) : w'.ownsRow B 5 1 v n xs := by
  obtain ⟨h1, h2⟩ := h
  refine ⟨h1, ?_⟩
  rcases h2 with hn | ⟨g, cap, cur, rfl, hb, hg, r⟩
  · exact Or.inl hn
  · exact Or.inr ⟨g, cap, cur, rfl, hb, k.same (hL g rfl) hg, r⟩
theorem WOf.used {w0 w : World} {b : Nat} {S : List Nat} {l : List UInt8} {p : Value} {ad : Option Addr} {n cap : Nat} (h : WOf w0 w b S l p ad n cap) : WOf w0 (w.setCell ⟨b, 0, none⟩ (.pointer (some ⟨b, 0, none⟩))) b S l (.pointer (some ⟨b, 0, none⟩)) ad n cap := by
  have fr : Fr [b] w (w.setCell ⟨b, 0, none⟩ (.pointer (some ⟨b, 0, none⟩))) := (Fr.refl _ _).setCell _ _ (by simp)
  refine ⟨Or.inr rfl, ?_, own_keptW h.own fr (fun g hg => by simp; rintro rfl; exact h.ne hg), h.ne, h.nb, h.nil, h.fr.then fr (fun i hi hm => ?_), fun k hk => ?_⟩
  · rw [heap_setCell_same w b 0 _ _ _ h.heap]; rfl
  · simp at hm
    have := h.nb
    omega
  · obtain ⟨h1, h2, h3⟩ := h.safe k hk
    exact ⟨Nat.lt_of_lt_of_le h1 fr.size, h2, h3⟩
/-- what comes beside, in new memory. -/
theorem WAt.beside {w0 w w' : World} {b : Nat} {S : List Nat} {l : List UInt8} (h : WAt w0 w b S l) (f : Fr [] w w') : WAt w0 w' b S l := by
  obtain ⟨p, ad, n, cap, h⟩ := h
  exact ⟨p, ad, n, cap, h.ptr, f.same (by simp) h.heap, own_keptW h.own f (by simp), h.ne, h.nb, h.nil, h.fr.trans f, fun k hk => by
    obtain ⟨h1, h2, h3⟩ := h.safe k hk
    exact ⟨Nat.lt_of_lt_of_le h1 f.size, h2, h3⟩⟩
/-- a new block is none of its own. -/
theorem WAt.more {w0 w w' : World} {b g : Nat} {S : List Nat} {l : List UInt8} (h : WAt w0 w b S l) (f : Fr [] w w') (hg : w.heap.size ≤ g) (hg2 : g < w'.heap.size) : WAt w0 w' b (g :: S) l := by
  obtain ⟨p, ad, n, cap, h⟩ := h
  refine ⟨p, ad, n, cap, h.ptr, f.same (by simp) h.heap, own_keptW h.own f (by simp), h.ne, h.nb, h.nil, h.fr.trans f, fun k hk => ?_⟩
  rcases List.mem_cons.1 hk with rfl | hk
  · refine ⟨hg2, by have := h.lt; omega, fun e => ?_⟩
    have := (h.own.lt k e).2
    omega
  · obtain ⟨h1, h2, h3⟩ := h.safe k hk
    exact ⟨Nat.lt_of_lt_of_le h1 f.size, h2, h3⟩
theorem WAt.less {w0 w : World} {b : Nat} {S T : List Nat} {l : List UInt8} (h : WAt w0 w b S l) (hs : ∀ k ∈ T, k ∈ S) : WAt w0 w b T l := by
  obtain ⟨p, ad, n, cap, h⟩ := h
  exact ⟨p, ad, n, cap, h.ptr, h.heap, h.own, h.ne, h.nb, h.nil, h.fr, fun k hk => h.safe k (hs k hk)⟩
theorem WAt.fr {w0 w : World} {b : Nat} {S : List Nat} {l : List UInt8} (h : WAt w0 w b S l) : Fr [] w0 w := by obtain ⟨p, ad, n, cap, h⟩ := h; exact h.fr
theorem WAt.lt' {w0 w : World} {b : Nat} {S : List Nat} {l : List UInt8} (h : WAt w0 w b S l) : ∀ k ∈ S, k < w.heap.size := by obtain ⟨p, ad, n, cap, h⟩ := h; exact h.lt'
/-- a new writer. -/
theorem WAt.new {w0 w : World} (f : Fr [] w0 w) : WAt w0 (w.alloc (.cells #[.pointer none, .slice none 0 0] 47)) w.heap.size [] [] :=
  ⟨.pointer none, none, 0, 0, Or.inl rfl, heap_alloc_new w _, World.ownsRow_nil _ _ _ _, by simp [Value.ownBlock], f.size, fun _ => rfl, f.alloc _, fun k hk => by simp at hk⟩

theorem infoB : ∃ j, Tryd.prog.info? 45 = some j ∧ j.size = 2 := Option.map_eq_some_iff.1 (by kernel_rfl)
theorem liesW : liesAt Tryd.prog Tryd.prog.depth 47 (2 / Tryd.prog.cellsOf 47) 0 45 1 = true := by kernel_rfl
set_option maxHeartbeats 1000000 in
set_option maxRecDepth 100000 in
theorem copyCheck_used (w : World) (b : Nat) (h0 : w.cell? ⟨b, 0, none⟩ = some (.pointer (some ⟨b, 0, none⟩))) :
    Calls Tryd.prog 59 #[.pointer (some ⟨b, 0, none⟩)] w fun e w' => e = .returned (.tuple #[]) ∧ w' = w := by
  obtain ⟨j, hj, _⟩ := infoB
  go_enter Tryd.func59, Tryd.ntmps59
  go_wp2
  rw [Lib.run_neq_ptr_same w _ Tryd.underlying43 hj]
  go_wp2
  go_end0
  exact ⟨rfl, rfl⟩
set_option maxHeartbeats 1000000 in
set_option maxRecDepth 100000 in
theorem copyCheck_fresh (w : World) (b : Nat) (h0 : w.cell? ⟨b, 0, none⟩ = some (.pointer none)) (hsh : w.shape? b = some (47, 2)) (hfz : w.frozen? ⟨b, 0, none⟩ = false) :
    Calls Tryd.prog 59 #[.pointer (some ⟨b, 0, none⟩)] w fun e w' => e = .returned (.tuple #[]) ∧ w' = w.setCell ⟨b, 0, none⟩ (.pointer (some ⟨b, 0, none⟩)) := by
  obtain ⟨j, hj, hjs⟩ := infoB
  go_enter Tryd.func59, Tryd.ntmps59
  go_wp2
  rw [Lib.run_to_unsafe w ⟨b, 0, none⟩ Tryd.underlying43 Tryd.underlying84 hj (by rw [hjs]; decide) hsh (Nat.zero_lt_succ 1)]
  simp only [Result.andThen]
  rw [Oper.upon_value]
  go_wp2
  rw [run_callFunc_extern (P := Tryd.prog) Tryd.func70 (by kernel_rfl) (by kernel_rfl) (by kernel_rfl) (e := Extern.AbiNoEscape.same) (by kernel_rfl)]
  rw [Lib.run_noEscape]
  simp only [Result.andThen]
  rw [Oper.upon_value]
  go_wp2
  rw [Lib.run_from_unsafe w ⟨b, 0, none⟩ Tryd.underlying84 Tryd.underlying43 hj hsh liesW]
  simp only [Result.andThen]
  rw [Oper.upon_value]
  go_wp2
  go_end0
  exact ⟨rfl, rfl⟩
theorem copyCheck_any (w0 w : World) (b : Nat) (S : List Nat) (l : List UInt8) (p : Value) (ad : Option Addr) (n cap : Nat) (h : WOf w0 w b S l p ad n cap) :
    Calls Tryd.prog 59 #[.pointer (some ⟨b, 0, none⟩)] w fun e w' => e = .returned (.tuple #[]) ∧ WOf w0 w' b S l (.pointer (some ⟨b, 0, none⟩)) ad n cap ∧ Fr [b] w w' := by
  rcases h.ptr with hp | hp
  · subst hp
    refine (copyCheck_fresh w b h.c0 h.shape (h.fz 0)).mono ?_
    rintro e w' ⟨rfl, rfl⟩
    exact ⟨rfl, h.used, (Fr.refl _ _).setCell _ _ (by simp)⟩
  · subst hp
    refine (copyCheck_used w b h.c0).mono ?_
    rintro e w' ⟨rfl, rfl⟩
    exact ⟨rfl, h, Fr.refl _ _⟩
section
variable {ops : Array Oper} {rest : List Oper} {o : Oper} {a : Act} {w : World} {Q : Exit → Act → World → Prop}
theorem wp_appW (hgd : o.guard = none) (x y : Operand) (ho : o.op = .call { callee := .builtin .append, args := #[x, y], argTypes := #[34, 9] }) (w0 : World) (b : Nat) (S : List Nat) (l : List UInt8) (p : Value) (ad : Option Addr) (n cap : Nat) (hW : WOf w0 w b S l p ad n cap) (s : ByteArray) (hx : a.eval x = .slice ad n cap) (hy : a.eval y = .string s) (hm : n + s.size ≤ 140737488355328)
    (h : ∀ ad' n' cap' w', Hid (n' = n + s.size) → w'.cell? ⟨b, 1, none⟩ = some (.slice ad n cap) → w'.frozen? ⟨b, 1, none⟩ = false → Hid (WOf w0 (w'.setCell ⟨b, 1, none⟩ (.slice ad' n' cap')) b S (l ++ bl s) p ad' n' cap' ∧ Keep S w (w'.setCell ⟨b, 1, none⟩ (.slice ad' n' cap'))) → wpList Tryd.prog ops Q rest (a.put o.dst (.slice ad' n' cap')) w') : wpList Tryd.prog ops Q (o :: rest) a w :=
  wpList_plain hgd fun K hK => by
    obtain ⟨ad', cap', w', hrun, h2, h3, h4, h4n⟩ := app_lies w w0.heap.size ad n cap l hW.own s hm hW.fr.size hW.nil o.type
    unfold Oper.wp execOp
    simp [ho, resolve, invoke, builtin, hx, hy, hrun, Result.andThen]
    have f1 : Fr (Value.slice ad n cap).ownBlock.toList w w' := (Fr.refl _ _).grown h3 (fun j e _ => by simp [e])
    have hh : w'.heap[b]? = some (.cells #[p, .slice ad n cap] 47) := f1.same (by simpa using hW.ne) hW.heap
    have hlt := hW.lt
    have hnot : ∀ k, k < w.heap.size → (Value.slice ad n cap).ownBlock ≠ some k → (Value.slice ad' (n + s.size) cap').ownBlock ≠ some k := fun k hk hne e => by
      rcases h4 with e4 | ⟨g, e4, hg⟩
      · exact hne (e4 ▸ e)
      · rw [e4] at e
        have : g = k := by simpa using e
        omega
    have f2 : Fr [b] w' (w'.setCell ⟨b, 1, none⟩ (.slice ad' (n + s.size) cap')) := (Fr.refl _ _).setCell _ _ (by simp)
    refine hK _ _ (h ad' _ cap' w' (Hid.mk rfl) (by rw [cell_of_row w' b 1 _ _ _ hh]; rfl) (frozen_of_row w' b 1 _ _ hh) (Hid.mk ⟨⟨hW.ptr, ?_, own_keptW h2 f2 (fun g hg => by simp; rintro rfl; exact hnot _ hlt hW.ne hg), hnot b hlt hW.ne, hW.nb, h4n, ?_, fun k hk => ?_⟩, fun k hk => ?_⟩))
    · rw [heap_setCell_same w' b 1 _ _ _ hh]; rfl
    · refine (hW.fr.then f1 (fun i hi hm => ?_)).then f2 (fun i hi hm => ?_)
      · simp at hm
        have := (hW.own.lt i hm).1
        omega
      · simp at hm
        have := hW.nb
        omega
    · obtain ⟨g1, g2, g3⟩ := hW.safe k hk
      exact ⟨Nat.lt_of_lt_of_le g1 (Nat.le_trans f1.size f2.size), g2, hnot k g1 g3⟩
    · obtain ⟨g1, g2, g3⟩ := hW.safe k hk
      rw [f2.block k (Nat.lt_of_lt_of_le g1 f1.size) (by simpa using g2)]
      exact f1.block k g1 (by simpa using g3)
end
set_option maxHeartbeats 2000000 in
set_option maxRecDepth 100000 in
theorem writeString_any (w0 w : World) (b : Nat) (S : List Nat) (l : List UInt8) (h : WAt w0 w b S l) (s : ByteArray) (hm : l.length + s.size ≤ 140737488355328) :
    Calls Tryd.prog 47 #[.pointer (some ⟨b, 0, none⟩), .string s] w fun e w' => (∃ v, e = .returned v) ∧ WAt w0 w' b S (l ++ bl s) ∧ Keep S w w' := by
  obtain ⟨p, ad, n, cap, h⟩ := h
  have hc := copyCheck_any w0 w b S l p ad n cap h
  have hs := Hid.mk h.lt'
  have hne := Hid.mk (fun k (hk : k ∈ S) => (h.safe k hk).2.1)
  have hm' := Hid.mk (show n + s.size ≤ 140737488355328 from by rw [← h.len]; exact hm)
  clear h hm
  go_enter Tryd.func47, Tryd.ntmps47
  go_wp2_with fail
  refine hc.mono ?_
  rintro e w1 ⟨rfl, B1, k1⟩
  have K1 := Hid.mk (show Keep S w w1 from fun k hk => k1.block k (hs.out k hk) (by simpa using hne.out k hk))
  have c1 := B1.c1
  have hlt := B1.lt
  clear hc k1
  go_wp2_with (refine wp_appW rfl _ _ rfl w0 b S l _ ad n cap B1 s rfl rfl hm'.out ?_; intro ad' n' cap' w7 hn' d1 d2 hW)
  go_ret2
  exact ⟨⟨_, rfl⟩, ⟨_, _, _, _, hW.out.1⟩, K1.out.trans hW.out.2⟩
end Go.Proofs.YtjdcfaaoicnajaaDoor
