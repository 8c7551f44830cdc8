/-
  strings.Builder: WriteByte, WriteRune of a sign of one byte, String.
-/
import Derived.Test.YtddcilmeignlmaaGreatDoorLab5
import Derived.Lib.Builder
namespace Go.Proofs.YtddcilmeignlmaaGreatDoor
open Go.RowKit Go.Maps Go.Lib

/-- A builder at a block, new since w0, with its bytes. -/
structure BAt (w0 w : World) (b : Nat) (p : Value) (ad : Option Addr) (n cap : Nat) (xs : List Value) : Prop where
  heap : w.heap[b]? = some (.cells #[p, .slice ad n cap] 130)
  mine : Mine w0 w (.slice ad n cap) n xs
  ne : (Value.slice ad n cap).ownBlock ≠ some b
  nb : w0.heap.size ≤ b
theorem BAt.c0 {w0 w : World} {b : Nat} {p : Value} {ad : Option Addr} {n cap : Nat} {xs : List Value} (h : BAt w0 w b p ad n cap xs) : w.cell? ⟨b, 0, none⟩ = some p := by rw [cell_of_row w b 0 _ _ _ h.heap]; rfl
theorem BAt.c1 {w0 w : World} {b : Nat} {p : Value} {ad : Option Addr} {n cap : Nat} {xs : List Value} (h : BAt w0 w b p ad n cap xs) : w.cell? ⟨b, 1, none⟩ = some (.slice ad n cap) := by rw [cell_of_row w b 1 _ _ _ h.heap]; rfl
theorem BAt.fz {w0 w : World} {b : Nat} {p : Value} {ad : Option Addr} {n cap : Nat} {xs : List Value} (h : BAt w0 w b p ad n cap xs) (j : Nat) : w.frozen? ⟨b, j, none⟩ = false := frozen_of_row w b j _ _ h.heap
theorem BAt.shape {w0 w : World} {b : Nat} {p : Value} {ad : Option Addr} {n cap : Nat} {xs : List Value} (h : BAt w0 w b p ad n cap xs) : w.shape? b = some (130, 2) := by simp [World.shape?, h.heap]
theorem BAt.lt {w0 w : World} {b : Nat} {p : Value} {ad : Option Addr} {n cap : Nat} {xs : List Value} (h : BAt w0 w b p ad n cap xs) : b < w.heap.size := (Array.getElem?_eq_some_iff.1 h.heap).1

theorem BAt.used {w0 w : World} {b : Nat} {p : Value} {ad : Option Addr} {n cap : Nat} {xs : List Value} (h : BAt w0 w b p ad n cap xs) (q : Value) : BAt w0 (w.setCell ⟨b, 0, none⟩ q) b q ad n cap xs := by
  have fr : Fr [b] w (w.setCell ⟨b, 0, none⟩ q) := (Fr.refl _ _).setCell _ _ (by simp)
  refine ⟨?_, ⟨own_kept h.mine.own fr (fun g hg => by simp; rintro rfl; exact h.ne hg), h.mine.new, h.mine.fr.then fr (fun i hi hm => ?_)⟩, h.ne, h.nb⟩
  · rw [heap_setCell_same w b 0 _ _ q h.heap]; rfl
  · simp at hm
    have := h.nb
    omega

/-- What a write to a builder keeps. -/
structure Went (w w' : World) (b : Nat) (v v' : Value) : Prop where
  fr : Fr (b :: v.ownBlock.toList) w w'
  new : ∀ x, x < w.heap.size → v.ownBlock ≠ some x → v'.ownBlock ≠ some x

theorem infoB : ∃ j, Tryz.prog.info? 130 = some j ∧ j.size = 2 := Option.map_eq_some_iff.1 (by kernel_rfl)
theorem liesB : liesAt Tryz.prog Tryz.prog.depth 130 (2 / Tryz.prog.cellsOf 130) 0 130 1 = true := by kernel_rfl

set_option maxHeartbeats 1000000 in
set_option maxRecDepth 100000 in
theorem copyCheck_used (w : World) (b : Nat) (h0 : w.cell? ⟨b, 0, none⟩ = some (.pointer (some ⟨b, 0, none⟩))) :
    Calls Tryz.prog 125 #[.pointer (some ⟨b, 0, none⟩)] w fun e w' => e = .returned (.tuple #[]) ∧ w' = w := by
  obtain ⟨j, hj, _⟩ := infoB
  go_enter Tryz.func125, Tryz.ntmps125
  go_wp2
  rw [Lib.run_neq_ptr_same w _ Tryz.underlying128 hj]
  go_wp2
  go_end0
  exact ⟨rfl, rfl⟩

set_option maxHeartbeats 1000000 in
set_option maxRecDepth 100000 in
theorem copyCheck_fresh (w : World) (b : Nat) (h0 : w.cell? ⟨b, 0, none⟩ = some (.pointer none)) (hsh : w.shape? b = some (130, 2)) (hfz : w.frozen? ⟨b, 0, none⟩ = false) :
    Calls Tryz.prog 125 #[.pointer (some ⟨b, 0, none⟩)] w fun e w' => e = .returned (.tuple #[]) ∧ w' = w.setCell ⟨b, 0, none⟩ (.pointer (some ⟨b, 0, none⟩)) := by
  obtain ⟨j, hj, hjs⟩ := infoB
  go_enter Tryz.func125, Tryz.ntmps125
  go_wp2
  rw [Lib.run_to_unsafe w ⟨b, 0, none⟩ Tryz.underlying128 Tryz.underlying238 hj (by rw [hjs]; decide) hsh (Nat.zero_lt_succ 1)]
  simp only [Result.andThen]
  rw [Oper.upon_value]
  go_wp2
  rw [run_callFunc_extern (P := Tryz.prog) Tryz.func141 (by kernel_rfl) (by kernel_rfl) (by kernel_rfl) (e := Extern.AbiNoEscape.same) (by kernel_rfl)]
  rw [Lib.run_noEscape]
  simp only [Result.andThen]
  rw [Oper.upon_value]
  go_wp2
  rw [Lib.run_from_unsafe w ⟨b, 0, none⟩ Tryz.underlying238 Tryz.underlying128 hj hsh liesB]
  simp only [Result.andThen]
  rw [Oper.upon_value]
  go_wp2
  go_end0
  exact ⟨rfl, rfl⟩

theorem copyCheck_any (w0 w : World) (b : Nat) (p : Value) (ad : Option Addr) (n cap : Nat) (xs : List Value) (h : BAt w0 w b p ad n cap xs) (hp : p = .pointer none ∨ p = .pointer (some ⟨b, 0, none⟩)) :
    Calls Tryz.prog 125 #[.pointer (some ⟨b, 0, none⟩)] w fun e w' => e = .returned (.tuple #[]) ∧ BAt w0 w' b (.pointer (some ⟨b, 0, none⟩)) ad n cap xs ∧ Fr [b] w w' := by
  rcases hp with rfl | rfl
  · refine (copyCheck_fresh w b h.c0 h.shape (h.fz 0)).mono ?_
    rintro e w' ⟨rfl, rfl⟩
    exact ⟨rfl, h.used _, (Fr.refl _ _).setCell _ _ (by simp)⟩
  · refine (copyCheck_used w b h.c0).mono ?_
    rintro e w' ⟨rfl, rfl⟩
    exact ⟨rfl, h, Fr.refl _ _⟩

theorem BAt.keep {w0 w w' : World} {b : Nat} {p : Value} {ad : Option Addr} {n cap : Nat} {xs : List Value} (h : BAt w0 w b p ad n cap xs) (f : Fr [] w w') : BAt w0 w' b p ad n cap xs := ⟨f.same (by simp) h.heap, h.mine.keep f, h.ne, h.nb⟩

theorem Mine.app' {w wr w' : World} {v : Value} {n : Nat} {xs ys : List Value} {g cap : Nat} (h : Mine w wr v n xs) (f : Fr v.ownBlock.toList wr w') (o : w'.ownsRow 0 5 1 (.slice (some ⟨g, 0, none⟩) (n + 1) cap) (n + 1) ys) (at5 : v.ownBlock = some g ∨ wr.heap.size ≤ g) : Mine w w' (.slice (some ⟨g, 0, none⟩) (n + 1) cap) (n + 1) ys := by
  have hs := h.fr.size
  refine ⟨o, ?_, h.fr.then f (fun i hi hm => ?_)⟩
  · intro x hx
    have : g = x := by simpa [Value.ownBlock] using hx
    subst this
    rcases at5 with e | e
    · exact h.new g e
    · omega
  · simp at hm
    have := h.new i hm
    omega
theorem went {w w1 w7 : World} {b : Nat} {v : Value} {g n cap : Nat} {x : Value} (k : Fr [b] w w1) (f : Fr v.ownBlock.toList w1 w7) (at5 : v.ownBlock = some g ∨ w1.heap.size ≤ g) : Went w (w7.setCell ⟨b, 1, none⟩ x) b v (.slice (some ⟨g, 0, none⟩) n cap) := by
  refine ⟨(((k.mono (fun i _ hm => by simp at hm; simp [hm])).then f (fun i hi hm => List.mem_cons_of_mem _ hm)).setCell _ _ (by simp)), ?_⟩
  intro y hy hv e
  have : g = y := by simpa [Value.ownBlock] using e
  subst this
  rcases at5 with h | h
  · exact hv h
  · have := k.size
    omega
/-- .. with one byte more. -/
theorem BAt.put' {w0 w w' : World} {b : Nat} {p : Value} {ad : Option Addr} {n cap g cap' : Nat} {xs ys : List Value} (h : BAt w0 w b p ad n cap xs) (f : Fr (Value.slice ad n cap).ownBlock.toList w w') (o : w'.ownsRow 0 5 1 (.slice (some ⟨g, 0, none⟩) (n + 1) cap') (n + 1) ys) (at5 : (Value.slice ad n cap).ownBlock = some g ∨ w.heap.size ≤ g) :
    w'.heap[b]? = some (.cells #[p, .slice ad n cap] 130) ∧ BAt w0 (w'.setCell ⟨b, 1, none⟩ (.slice (some ⟨g, 0, none⟩) (n + 1) cap')) b p (some ⟨g, 0, none⟩) (n + 1) cap' ys := by
  have hh : w'.heap[b]? = some (.cells #[p, .slice ad n cap] 130) := f.same (by simpa using h.ne) h.heap
  refine ⟨hh, ?_⟩
  have hlt := h.lt
  have hgb : g ≠ b := by
    rintro rfl
    rcases at5 with e | e
    · exact h.ne e
    · omega
  have fr : Fr [b] w' (w'.setCell ⟨b, 1, none⟩ (.slice (some ⟨g, 0, none⟩) (n + 1) cap')) := (Fr.refl _ _).setCell _ _ (by simp)
  have M := h.mine.app' f o at5
  refine ⟨?_, ⟨own_kept M.own fr (fun x hx => ?_), M.new, M.fr.then fr (fun i hi hm => ?_)⟩, ?_, h.nb⟩
  · rw [heap_setCell_same w' b 1 _ _ _ hh]; rfl
  · have : g = x := by simpa [Value.ownBlock] using hx
    subst this
    simpa using hgb
  · simp at hm
    have := h.nb
    omega
  · simpa [Value.ownBlock] using hgb

set_option maxHeartbeats 2000000 in
set_option maxRecDepth 100000 in
theorem writeByte_any (w0 w : World) (b : Nat) (p : Value) (ad : Option Addr) (n cap : Nat) (xs : List Value) (c : Int) (h : BAt w0 w b p ad n cap xs) (hp : p = .pointer none ∨ p = .pointer (some ⟨b, 0, none⟩)) (hn : n + 1 ≤ 16777216) :
    Calls Tryz.prog 91 #[.pointer (some ⟨b, 0, none⟩), .int .u8 c] w fun e w' => ∃ ad' cap', e = .returned .nilIface ∧ BAt w0 w' b (.pointer (some ⟨b, 0, none⟩)) ad' (n + 1) cap' (xs ++ [.int .u8 c]) ∧ Went w w' b (.slice ad n cap) (.slice ad' (n + 1) cap') := by
  have hc := copyCheck_any w0 w b p ad n cap xs h hp
  clear h hp
  go_enter Tryz.func91, Tryz.ntmps91
  go_wp2_with fail
  refine hc.mono ?_
  rintro e w1 ⟨rfl, B1, k1⟩
  have c0 := B1.c0
  have c1 := B1.c1
  have hlt := B1.lt
  have B2 := B1.keep ((Fr.refl [] w1).alloc (.cells #[.int .u8 c] 5))
  have cX : (w1.alloc (.cells #[.int .u8 c] 5)).cell? ⟨w1.heap.size, 0, none⟩ = some (.int .u8 c) := by rw [cell_of_row _ _ _ _ _ _ (heap_alloc_new w1 _)]; rfl
  clear hc B1
  go_wp2_with (refine wp_app rfl _ _ rfl (.slice ad n cap) n xs rfl B2.mine.own w1.heap.size 1 1 [.int .u8 c] rfl rfl (by intro j q hq; cases j with | zero => (simp at hq; subst hq; exact cX) | succ j => simp at hq) (by intro q hq; simp at hq; subst hq; rfl) (by omega) (by omega) ?_; intro g cap' w7 o7 f7 at7 lt7 keep7; obtain ⟨h7, B7⟩ := B2.put' f7 o7 (at7.imp id (fun e => Nat.le_of_eq e.symm)); have d0 : w7.cell? ⟨b, 0, none⟩ = some (.pointer (some ⟨b, 0, none⟩)) := (by rw [cell_of_row w7 b 0 _ _ _ h7]; rfl); have d1 : w7.cell? ⟨b, 1, none⟩ = some (.slice ad n cap) := (by rw [cell_of_row w7 b 1 _ _ _ h7]; rfl); have d2 : w7.frozen? ⟨b, 1, none⟩ = false := frozen_of_row w7 b 1 _ _ h7)
  go_ret
  exact ⟨_, _, rfl, B7, went (k1.alloc _) f7 (at7.imp id (fun e => Nat.le_of_eq e.symm))⟩

end Go.Proofs.YtddcilmeignlmaaGreatDoor
