/-
  The pool in memory; its small functions; a page written, its log made safe ahead of it.
-/
import Derived.Test.YtopaeomjndblkaaGreatY16Z
import Derived.Test.YtopaeomjndblkaaGreatY21Z
import Derived.Test.YtopaeomjndblkaaGreatY06Z
import Derived.Test.YtopaeomjndblkaaGreatY18Z
import Derived.Test.YtopaeomjndblkaaGreatY20Z
import Derived.Test.YtopaeomjndblkaaGreatY15Z
import Derived.Maps.AppendAt
namespace Go.Proofs.YtopaeomjndblkaaGreat
open Go.RowKit Go.Maps

/-- The places of a log's records rise, from the oldest one on. -/
structure LsOk (y : Lo) : Prop where
  rise : y.ls.Pairwise (· < ·)
  le : ∀ v ∈ y.ls, (y.A : Int) + 1 ≤ v ∧ v ≤ (y.E : Int)
theorem bin_found {ls : List Int} (hr : ls.Pairwise (· < ·)) {k : Int} {i j : Nat} (hi : ls[i]? = some k) (hj : BinAt ls k j) : ls[j]? = some k := by
  obtain ⟨hil, hie⟩ := List.getElem?_eq_some_iff.1 hi
  have hp := List.pairwise_iff_getElem.1 hr
  rcases Nat.lt_trichotomy i j with h | h | h
  · exfalso
    have hjl : j - 1 < ls.length := by have := hj.le; omega
    have h1 := hj.lo _ (by omega) (List.getElem?_eq_getElem hjl)
    by_cases e : i = j - 1
    · subst e
      omega
    · have := hp i (j - 1) hil hjl (by omega)
      omega
  · subst h
    exact hi
  · exfalso
    have hjl : j < ls.length := by omega
    have h1 := hj.hi _ (List.getElem?_eq_getElem hjl)
    have := hp j i hjl hil h
    omega
set_option maxHeartbeats 1000000 in
set_option maxRecDepth 100000 in
theorem lo_read {w : World} {y : Lo} (h : LoAt w y) (hr : LsOk y) {i a : Nat} (hi : y.ls[i]? = some ((a : Int) + 1)) (ha : y.A ≤ a) (hE : a < y.E) (hsz : y.E ≤ a + 100000) {r : Rec} {m : Nat} (hd : decR (y.lb.drop (a - y.F)) = some (r, m)) :
    Calls Tryz.prog 201 #[.pointer (some ⟨y.p, 0, none⟩), .int .i64 ((a : Int) + 1)] w fun e w' => ∃ s, e = .returned (.tuple #[.agg (recV r s), .int .i64 0]) ∧ NewSpots w w' r s ∧ Fr [] w w' := by
  have hEE := h.hE
  have h22 := h.h2
  have hlb := h.lbl
  have hhn := h.hn
  have hFA := h.hFA
  have hls : y.ls.length = y.n2 := by
    have h1 := h.lsA.1
    simpa [lsV] using h1
  have rR : RBox (w.alloc (.cells #[.int .i64 0, .int .i64 0, .int .u8 0, .int .i64 0, .int .i64 0, .int .i64 0, .int .i64 0, .int .i64 0, .slice none 0 0, .slice none 0 0] 192)) w.heap.size (zeroR 0 0) zeroS := heap_alloc_new w _
  have f1 := (Fr.refl [] w).alloc (.cells #[.int .i64 0, .int .i64 0, .int .u8 0, .int .i64 0, .int .i64 0, .int .i64 0, .int .i64 0, .int .i64 0, .slice none 0 0, .slice none 0 0] 192)
  have HH := hidI h
  have HR := hidI hr
  have HI := hidI hi
  have HD := hidI hd
  clear h hr hi hd
  go_enter Tryz.func201, Tryz.ntmps201
  go_wp2_with fail
  generalize w.alloc (.cells #[.int .i64 0, .int .i64 0, .int .u8 0, .int .i64 0, .int .i64 0, .int .i64 0, .int .i64 0, .int .i64 0, .slice none 0 0, .slice none 0 0] 192) = w1 at rR f1 ⊢
  have H1 := hidI (HH.out.kept f1 (by simp))
  have k0 : w1.cell? ⟨y.p, 0, none⟩ = some (.pointer (some ⟨y.d, 0, none⟩)) := H1.out.box.c0
  have k9 : w1.cell? ⟨y.p, 9, none⟩ = some (.slice y.a2 y.n2 y.c2) := H1.out.box.c9
  refine (lmade_yes _ y.p y.d k0).mono ?_
  rintro e w1 ⟨rfl, rfl⟩
  go_wp2_with fail
  obtain ⟨s1, s2⟩ := H1.out.lsA.src hls
  refine (bin_any w1 y.a2 y.n2 y.c2 y.ls ((a : Int) + 1) hls (by omega) (fun j v hj => ?_)).mono ?_
  · cases hx : y.a2 with
    | none =>
      have := (s1 hx).1
      have := (List.getElem?_eq_some_iff.1 hj).1
      omega
    | some x =>
      obtain ⟨g, rfl, _, hc⟩ := s2 x hx
      exact ⟨g, rfl, hc j v hj⟩
  rintro e w2 ⟨j, rfl, rfl, hbin⟩
  rw [decide_eq_true (bin_found HR.out.rise HI.out hbin)]
  clear s1 s2 hbin
  have hlen : y.n = (a - y.F) + (y.E - a) := by omega
  obtain ⟨g, had, B1, hbb⟩ := H1.out.bsA.at (by omega) hlb
  obtain ⟨c, hcb⟩ : ∃ c, y.cb = c := ⟨_, rfl⟩
  rw [hcb] at hbb
  have L1 : LBox w2 y.p ⟨.pointer (some ⟨y.d, 0, none⟩), y.first, y.count, (y.T : Int), (y.A : Int) + 1, (y.P : Int) + 1, (y.E : Int) + 1, .slice (some ⟨g, 0, none⟩) y.n c, (y.F : Int) + 1, .slice y.a2 y.n2 y.c2⟩ := by
    have := H1.out.box
    unfold Lo.lg at this
    rw [had, hcb] at this
    exact this
  go_wp2_with fail
  refine (record_any w2 y.p _ y.first y.count y.T _ _ _ ((y.F : Int) + 1) ((a : Int) + 1) _ g y.n c (a - y.F) (y.E - a) (c - (a - y.F)) y.lb m r L1 B1 hlb (by omega) hlen (by omega) (by omega) hbb ?_ HD.out).mono ?_
  · rw [wrapI _ (by omega) (by omega)]
    omega
  rintro e w3 ⟨s, rfl, ns, f2⟩
  have r2 := rR.kept f2 (by simp)
  go_wp2_with (refine wp_storeR rfl _ _ rfl w.heap.size _ r _ s rfl rfl r2 ?_; intro w4 r3 f3)
  refine bodyPost_ret (resR2 rfl _ _ w.heap.size r s rfl r3) rfl ⟨s, rfl, ?_, (f1.trans f2).then f3 (fun i hi hm => by simp at hm; omega)⟩
  refine new_base (ns.kept f3 (fun g' hg' cur t h => ?_)) f1.size
  simp at hg'
  subst hg'
  have h1 := r2
  unfold RBox at h1
  rw [h1] at h
  cases h
  decide
end Go.Proofs.YtopaeomjndblkaaGreat

namespace Go.Proofs.YtopaeomjndblkaaGreat
open Go.RowKit Go.Maps

structure Dl where
  st : Int
  num : Int
  chg : Int
  last : Int
  next : Int
  und : Int
  kept : Int
def dl0 : Dl := ⟨0, 0, 0, 0, 0, 0, 0⟩
def DlAt (w : World) (p : Nat) (x : Dl) : Prop := w.heap[p]? = some (.cells #[.int .i64 x.st, .int .i64 x.num, .int .i64 x.chg, .int .i64 x.last, .int .i64 x.next, .int .i64 x.und, .int .i64 x.kept] 168)
theorem DlAt.kept' {w w' : World} {p : Nat} {x : Dl} {L : List Nat} (h : DlAt w p x) (f : Fr L w w') (hp : p ∉ L) : DlAt w' p x := f.same hp h
theorem DlAt.lt {w : World} {p : Nat} {x : Dl} (h : DlAt w p x) : p < w.heap.size := (Array.getElem?_eq_some_iff.1 h).1
theorem DlAt.fz {w : World} {p : Nat} {x : Dl} (h : DlAt w p x) (j : Nat) : w.frozen? ⟨p, j, none⟩ = false := frozen_of_row w p j _ _ h
theorem DlAt.c0 {w : World} {p : Nat} {x : Dl} (h : DlAt w p x) : w.cell? ⟨p, 0, none⟩ = some (.int .i64 x.st) := cell_of_row w p 0 _ _ _ h
theorem DlAt.s0 {w : World} {p : Nat} {x : Dl} (h : DlAt w p x) (v : Int) : DlAt (w.setCell ⟨p, 0, none⟩ (.int .i64 v)) p { x with st := v } := heap_setCell_same w p 0 _ _ _ h
theorem DlAt.c1 {w : World} {p : Nat} {x : Dl} (h : DlAt w p x) : w.cell? ⟨p, 1, none⟩ = some (.int .i64 x.num) := cell_of_row w p 1 _ _ _ h
theorem DlAt.s1 {w : World} {p : Nat} {x : Dl} (h : DlAt w p x) (v : Int) : DlAt (w.setCell ⟨p, 1, none⟩ (.int .i64 v)) p { x with num := v } := heap_setCell_same w p 1 _ _ _ h
theorem DlAt.c2 {w : World} {p : Nat} {x : Dl} (h : DlAt w p x) : w.cell? ⟨p, 2, none⟩ = some (.int .i64 x.chg) := cell_of_row w p 2 _ _ _ h
theorem DlAt.s2 {w : World} {p : Nat} {x : Dl} (h : DlAt w p x) (v : Int) : DlAt (w.setCell ⟨p, 2, none⟩ (.int .i64 v)) p { x with chg := v } := heap_setCell_same w p 2 _ _ _ h
theorem DlAt.c3 {w : World} {p : Nat} {x : Dl} (h : DlAt w p x) : w.cell? ⟨p, 3, none⟩ = some (.int .i64 x.last) := cell_of_row w p 3 _ _ _ h
theorem DlAt.s3 {w : World} {p : Nat} {x : Dl} (h : DlAt w p x) (v : Int) : DlAt (w.setCell ⟨p, 3, none⟩ (.int .i64 v)) p { x with last := v } := heap_setCell_same w p 3 _ _ _ h
theorem DlAt.c4 {w : World} {p : Nat} {x : Dl} (h : DlAt w p x) : w.cell? ⟨p, 4, none⟩ = some (.int .i64 x.next) := cell_of_row w p 4 _ _ _ h
theorem DlAt.s4 {w : World} {p : Nat} {x : Dl} (h : DlAt w p x) (v : Int) : DlAt (w.setCell ⟨p, 4, none⟩ (.int .i64 v)) p { x with next := v } := heap_setCell_same w p 4 _ _ _ h
theorem DlAt.c5 {w : World} {p : Nat} {x : Dl} (h : DlAt w p x) : w.cell? ⟨p, 5, none⟩ = some (.int .i64 x.und) := cell_of_row w p 5 _ _ _ h
theorem DlAt.s5 {w : World} {p : Nat} {x : Dl} (h : DlAt w p x) (v : Int) : DlAt (w.setCell ⟨p, 5, none⟩ (.int .i64 v)) p { x with und := v } := heap_setCell_same w p 5 _ _ _ h
theorem DlAt.c6 {w : World} {p : Nat} {x : Dl} (h : DlAt w p x) : w.cell? ⟨p, 6, none⟩ = some (.int .i64 x.kept) := cell_of_row w p 6 _ _ _ h
theorem DlAt.s6 {w : World} {p : Nat} {x : Dl} (h : DlAt w p x) (v : Int) : DlAt (w.setCell ⟨p, 6, none⟩ (.int .i64 v)) p { x with kept := v } := heap_setCell_same w p 6 _ _ _ h
def BBox (w : World) (p d l pp dp : Nat) : Prop := w.heap[p]? = some (.cells #[.pointer (some ⟨d, 0, none⟩), .pointer (some ⟨l, 0, none⟩), .pointer (some ⟨pp, 0, none⟩), .pointer (some ⟨dp, 0, none⟩)] 75)
theorem BBox.kept {w w' : World} {p d l pp dp : Nat} {L : List Nat} (h : BBox w p d l pp dp) (f : Fr L w w') (hp : p ∉ L) : BBox w' p d l pp dp := f.same hp h
theorem BBox.lt {w : World} {p d l pp dp : Nat} (h : BBox w p d l pp dp) : p < w.heap.size := (Array.getElem?_eq_some_iff.1 h).1
theorem BBox.c0 {w : World} {p d l pp dp : Nat} (h : BBox w p d l pp dp) : w.cell? ⟨p, 0, none⟩ = some (.pointer (some ⟨d, 0, none⟩)) := cell_of_row w p 0 _ _ _ h
theorem BBox.c1 {w : World} {p d l pp dp : Nat} (h : BBox w p d l pp dp) : w.cell? ⟨p, 1, none⟩ = some (.pointer (some ⟨l, 0, none⟩)) := cell_of_row w p 1 _ _ _ h
theorem BBox.c2 {w : World} {p d l pp dp : Nat} (h : BBox w p d l pp dp) : w.cell? ⟨p, 2, none⟩ = some (.pointer (some ⟨pp, 0, none⟩)) := cell_of_row w p 2 _ _ _ h
theorem BBox.c3 {w : World} {p d l pp dp : Nat} (h : BBox w p d l pp dp) : w.cell? ⟨p, 3, none⟩ = some (.pointer (some ⟨dp, 0, none⟩)) := cell_of_row w p 3 _ _ _ h
theorem sizeD : (Tryz.prog.info? 168).map (·.size) = some 7 := by kernel_rfl
section
variable {ops : Array Oper} {rest : List Oper} {o : Oper} {a : Act} {w : World} {Q : Exit → Act → World → Prop}
theorem wp_storeD (hgd : o.guard = none) (x y : Operand) (ho : o.op = .store 168 x y) (b : Nat) (r r' : Dl) (hx : a.eval x = .pointer (some ⟨b, 0, none⟩)) (hy : a.eval y = .agg #[.int .i64 r'.st, .int .i64 r'.num, .int .i64 r'.chg, .int .i64 r'.last, .int .i64 r'.next, .int .i64 r'.und, .int .i64 r'.kept]) (hg : DlAt w b r)
    (h : ∀ w', DlAt w' b r' → Fr [b] w w' → wpList Tryz.prog ops Q rest (a.put o.dst undef) w') : wpList Tryz.prog ops Q (o :: rest) a w := by
  exact wpList_store_row hgd 168 x y ho b #[.int .i64 r'.st, .int .i64 r'.num, .int .i64 r'.chg, .int .i64 r'.last, .int .i64 r'.next, .int .i64 r'.und, .int .i64 r'.kept] hx hy 168 _ hg sizeD rfl (by simp; exact ⟨rfl, rfl, rfl, rfl, rfl, rfl, rfl⟩)
    (h _ (setRow_heap w b _ _ _ _ hg) ⟨rfl, rfl, rfl, by simp, fun i _ hn => setRow_other w b i _ (fun e => hn (by simp [e]))⟩)
end
/-- No book: nil, or one that nobody made. -/
def NoBook (w : World) (v : Value) : Prop := v = .pointer none ∨ ∃ p, v = .pointer (some ⟨p, 0, none⟩) ∧ w.cell? ⟨p, 0, none⟩ = some (.pointer none)
theorem NoBook.kept {w w' : World} {v : Value} {L : List Nat} (h : NoBook w v) (f : Fr L w w') (hL : ∀ p, v = .pointer (some ⟨p, 0, none⟩) → p ∉ L) : NoBook w' v := by
  rcases h with rfl | ⟨p, rfl, h⟩
  · exact Or.inl rfl
  · refine Or.inr ⟨p, rfl, ?_⟩
    rw [← h]
    exact World.cell?_of_block (f.block p (block_lt_of_cell h) (hL p rfl))
theorem bmade_no (w : World) (v : Value) (h : NoBook w v) : Calls Tryz.prog 88 #[v] w fun e w' => e = .returned (.bool false) ∧ w' = w := by
  rcases h with rfl | ⟨p, rfl, h⟩
  · go_enter Tryz.func88, Tryz.ntmps88
    go_wp2
    go_ret
    exact ⟨rfl, rfl⟩
  · go_enter Tryz.func88, Tryz.ntmps88
    go_wp2
    go_ret
    exact ⟨rfl, rfl⟩
theorem bmade_yes {w : World} {p d l pp dp : Nat} (h : BBox w p d l pp dp) : Calls Tryz.prog 88 #[.pointer (some ⟨p, 0, none⟩)] w fun e w' => e = .returned (.bool true) ∧ w' = w := by
  have c0 := h.c0
  go_enter Tryz.func88, Tryz.ntmps88
  go_wp2
  go_ret
  exact ⟨rfl, rfl⟩
theorem bpages_no (w : World) (v : Value) (h : NoBook w v) : Calls Tryz.prog 24 #[v] w fun e w' => e = .returned (.int .i64 0) ∧ w' = w := by
  go_enter Tryz.func24, Tryz.ntmps24
  go_wp2_with (go_at_call 88; refine (bmade_no _ _ h).mono ?_; rintro e wz ⟨rfl, hz⟩; rw [hz]; clear hz)
  go_ret
  exact ⟨rfl, rfl⟩
theorem bpage_no (w : World) (v : Value) (h : NoBook w v) (k : Int) : Calls Tryz.prog 28 #[v, .int .i64 k] w fun e w' => e = .returned (.tuple #[.slice none 0 0, .int .i64 1]) ∧ w' = w := by
  go_enter Tryz.func28, Tryz.ntmps28
  go_wp2_with (go_at_call 88; refine (bmade_no _ _ h).mono ?_; rintro e wz ⟨rfl, hz⟩; rw [hz]; clear hz)
  go_ret2
  exact ⟨rfl, rfl⟩
theorem bkin_any {w : World} {p d l pp dp : Nat} (h : BBox w p d l pp dp) {x : Dl} (hx : DlAt w dp x) : Calls Tryz.prog 26 #[.pointer (some ⟨p, 0, none⟩)] w fun e w' => e = .returned (.bool (x.st != 0)) ∧ w' = w := by
  have c3 := h.c3
  have d0 := hx.c0
  go_enter Tryz.func26, Tryz.ntmps26
  go_wp2_with (go_at_call 88; refine (bmade_yes h).mono ?_; rintro e wz ⟨rfl, hz⟩; rw [hz]; clear hz)
  go_ret
  exact ⟨rfl, rfl⟩
theorem idle_out {w : World} {p d l pp dp : Nat} (h : BBox w p d l pp dp) {x : Dl} (hx : DlAt w dp x) (h0 : x.st = 0) : Calls Tryz.prog 94 #[.pointer (some ⟨p, 0, none⟩)] w fun e w' => e = .returned (.int .i64 0) ∧ w' = w := by
  have hb : (x.st != 0) = false := by simpa using h0
  clear h0
  go_enter Tryz.func94, Tryz.ntmps94
  go_wp2_with (first | (go_at_call 88; refine (bmade_yes h).mono ?_; rintro e wz ⟨rfl, hz⟩; rw [hz]; clear hz) | (go_at_call 26; refine (bkin_any h hx).mono ?_; rw [hb]; rintro e wz ⟨rfl, hz⟩; rw [hz]; clear hz))
  go_ret
  exact ⟨rfl, rfl⟩
/-- A transaction that stands as the first of those that are asked for. -/
theorem within_in {w : World} {p d l pp dp : Nat} (h : BBox w p d l pp dp) {x : Dl} (hx : DlAt w dp x) (h0 : x.st = 1) (g n c : Nat) (hn : 1 ≤ n) (hg : w.cell? ⟨g, 0, none⟩ = some (.int .i64 1)) : Calls Tryz.prog 96 #[.pointer (some ⟨p, 0, none⟩), .slice (some ⟨g, 0, none⟩) n c] w fun e w' => e = .returned (.int .i64 0) ∧ w' = w := by
  have c3 := h.c3
  have d0 := hx.c0
  rw [h0] at d0
  clear h0
  have q : (0 : Int) < (n : Int) := by omega
  go_enter Tryz.func96, Tryz.ntmps96
  go_wp2_with (go_at_call 88; refine (bmade_yes h).mono ?_; rintro e wz ⟨rfl, hz⟩; rw [hz]; clear hz)
  go_loopw [12] (fun s12 wr => s12 = .int .i64 0 ∧ wr = w) (fun _ _ => 0)
  case atStart => exact ⟨rfl, rfl⟩
  case round =>
    obtain ⟨rfl, hwr⟩ := hrel
    subst hwr
    go_wp2_with fail
    go_ret
    exact ⟨rfl, rfl⟩
/-- The transaction is ended. -/
theorem leave_any {w : World} {p d l pp dp : Nat} (h : BBox w p d l pp dp) {x : Dl} (hx : DlAt w dp x) : Calls Tryz.prog 107 #[.pointer (some ⟨p, 0, none⟩)] w fun e w' => e = .returned (.int .i64 0) ∧ DlAt w' dp dl0 ∧ Fr [dp] w w' := by
  have c3 := h.c3
  go_enter Tryz.func107, Tryz.ntmps107
  go_wp2_with (refine wp_storeD rfl _ _ rfl dp x dl0 rfl rfl hx ?_; intro w2 x2 f2)
  go_ret
  exact ⟨rfl, x2, f2⟩
end Go.Proofs.YtopaeomjndblkaaGreat

namespace Go.Proofs.YtopaeomjndblkaaGreat
open Go.RowKit Go.Maps

theorem infoPF : (Tryz.prog.info? 159).map (fun i => (i.zero, i.size, i.bytes)) = some (some (.pointer none), 1, 8) := by kernel_rfl
theorem infoPF' : ∃ i, Tryz.prog.info? 159 = some i ∧ i.zero = some (.pointer none) ∧ i.size = 1 ∧ i.bytes = 8 := by
  have h := infoPF
  cases hi : Tryz.prog.info? 159 with
  | none => rw [hi] at h; cases h
  | some i =>
    rw [hi] at h
    simp at h
    exact ⟨i, rfl, h.1, h.2.1, h.2.2⟩
section
variable {ops : Array Oper} {rest : List Oper} {o : Oper} {a : Act} {w : World} {Q : Exit → Act → World → Prop}
/-- append of a frame to a row of frames. -/
theorem wp_appF (hgd : o.guard = none) (s x : Operand) (ho : o.op = .call { callee := .builtin .append, args := #[s, x], argTypes := #[155, 155] }) (ad : Option Addr) (n c : Nat) (fs : List Fm) (b : Nat) (f : Fm) (hs : a.eval s = .slice ad n c) (hx : a.eval x = .slice (some ⟨b, 0, none⟩) 1 1)
    (hown : w.ownsRow 0 159 1 (.slice ad n c) n (slV fs)) (hb : w.heap[b]? = some (.cells #[.pointer (some ⟨f.b, 0, none⟩)] 159)) (hm : n + 1 ≤ 1000000)
    (h : ∀ g c' w', w'.ownsRow 0 159 1 (.slice (some ⟨g, 0, none⟩) (n + 1) c') (n + 1) (slV (fs ++ [f])) → Fr (Value.ownBlock (.slice ad n c)).toList w w' → NewOr ad n c g w.heap.size → wpList Tryz.prog ops Q rest (a.put o.dst (.slice (some ⟨g, 0, none⟩) (n + 1) c')) w') : wpList Tryz.prog ops Q (o :: rest) a w :=
  wpList_plain hgd fun K hK => by
    obtain ⟨i, hi, hz, hsz, hbb⟩ := infoPF'
    obtain ⟨v', w', hrun, h2, h3, h4, h5⟩ := run_append_own_at (P := Tryz.prog) w 0 155 o.type 159 i (.pointer none) 1 8 Tryz.underlying155 hi hz hsz hbb rfl (by omega) _ n (slV fs) hown ⟨b, 0, none⟩ 1 1 [.pointer (some ⟨f.b, 0, none⟩)] (by simp)
      (by
        intro j x hx
        cases j with
        | zero =>
          simp at hx
          subst hx
          rw [Addr.add_mid]
          exact cell_of_row w b 0 _ _ _ hb
        | succ j => simp at hx) (by intro x hx; simp at hx; subst hx; rfl) (by unfold maxLen; omega) (by omega) (Nat.zero_le _)
    rcases h2.2 with ⟨e, hn0⟩ | ⟨g, c', cur, e, r⟩
    · omega
    · subst e
      have h2' : w'.ownsRow 0 159 1 (.slice (some ⟨g, 0, none⟩) (n + 1) c') (n + 1) (slV (fs ++ [f])) := by
        unfold slV
        rw [List.map_append]
        exact h2
      unfold Oper.wp execOp
      simp [ho, resolve, invoke, builtin, hs, hx, hrun, Result.andThen]
      exact hK _ _ (h _ _ _ h2' ((Fr.refl _ _).grown h3 (fun j e _ => by simp [e])) (new_of h5))
end
set_option maxHeartbeats 2000000 in
theorem add_any {w : World} {rp : Nat} {sa : Option Addr} {sc hand : Nat} {fs : List Fm} (h : Rn w rp sa sc hand fs) (hm : fs.length < 1024) {f : Fm} (hf : FAt w f) (hb : f.b ∉ fs.map (·.b)) :
    Calls Tryz.prog 248 #[.pointer (some ⟨rp, 0, none⟩), .pointer (some ⟨f.b, 0, none⟩)] w fun e w' => e = .returned (.tuple #[]) ∧ ∃ g c', Rn w' rp (some ⟨g, 0, none⟩) c' hand (fs ++ [f]) ∧ NewOr sa fs.length sc g w.heap.size ∧ Fr (rp :: (Value.ownBlock (.slice sa fs.length sc)).toList) w w' := by
  have c0 := h.r0
  have HR := hidI h
  have HF := hidI hf
  have hne := h.rp_ne
  obtain ⟨n, HN⟩ : ∃ n, Hid (fs.length = n) := ⟨_, rfl⟩
  rw [HN.out] at c0 hm ⊢
  rw [HN.out] at hne
  clear h
  have fa : Fr [] w (w.alloc (.cells #[.pointer (some ⟨f.b, 0, none⟩)] 159)) := (Fr.refl [] w).alloc _
  have RA := hidI (HR.out.kept fa (by simp))
  have FA := hidI (HF.out.kept fa (by simp))
  have SL : Hid ((w.alloc (.cells #[.pointer (some ⟨f.b, 0, none⟩)] 159)).ownsRow 0 159 1 (.slice sa n sc) n (slV fs)) := hidI (by have := RA.out.slots; rw [HN.out] at this; exact this)
  have hrr : rp ∉ (Value.ownBlock (.slice sa n sc)).toList := fun e => hne.1 rp e rfl
  have RK : Hid (∀ w2, Fr (Value.ownBlock (.slice sa n sc)).toList (w.alloc (.cells #[.pointer (some ⟨f.b, 0, none⟩)] 159)) w2 → w2.heap[rp]? = some (.cells #[.slice sa n sc, .int .i64 (hand : Int)] 157)) := hidI (fun w2 f2 => by have := f2.same hrr RA.out.ring; rw [HN.out] at this; exact this)
  go_enter Tryz.func248, Tryz.ntmps248
  go_wp2_with (refine wp_appF rfl _ _ rfl sa n sc fs w.heap.size f rfl rfl SL.out (heap_alloc_new w _) (by omega) ?_; intro g c' w2 own2 f2 n2; have r2 := RK.out w2 f2; have d0 := cell_of_row w2 rp 0 _ _ _ r2; have z0 := frozen_of_row w2 rp 0 _ _ r2)
  go_end0
  have hsz := fa.size
  have fT : Fr (rp :: (Value.ownBlock (.slice sa n sc)).toList) w w2 := (fa.mono (fun _ _ e => nomatch e)).trans (f2.mono (fun k _ hk => List.mem_cons_of_mem _ hk))
  have own3 : (w2.setCell ⟨rp, 0, none⟩ (.slice (some ⟨g, 0, none⟩) (n + 1) c')).ownsRow 0 159 1 (.slice (some ⟨g, 0, none⟩) (n + 1) c') (n + 1) (slV (fs ++ [f])) := own_kb own2 (fr_set _ _ _ _) (by
    intro g' hg' e
    simp [Value.ownBlock] at hg' e
    subst hg'
    subst e
    rcases own2.2 with ⟨e, _⟩ | ⟨g2, _, cur, e, _, hg2, _⟩
    · cases e
    · cases e
      rw [r2] at hg2
      simp at hg2)
  have hlen : (fs ++ [f]).length = n + 1 := by rw [List.length_append, HN.out]; rfl
  refine ⟨rfl, g, c', ⟨?_, ?_, ?_, ?_⟩, n2.imp id (fun h1 => by omega), fT.setCell _ _ (fun _ => List.mem_cons_self)⟩
  · rw [hlen]
    exact heap_setCell_same w2 rp 0 _ _ _ r2
  · rw [hlen]
    exact own3
  · intro x hx
    have fr3 : Fr (rp :: (Value.ownBlock (.slice sa n sc)).toList) (w.alloc (.cells #[.pointer (some ⟨f.b, 0, none⟩)] 159)) (w2.setCell ⟨rp, 0, none⟩ (.slice (some ⟨g, 0, none⟩) (n + 1) c')) := (f2.mono (fun k _ hk => List.mem_cons_of_mem _ hk)).setCell _ _ (fun _ => List.mem_cons_self)
    have key : ∀ x, FAt (w.alloc (.cells #[.pointer (some ⟨f.b, 0, none⟩)] 159)) x → FAt (w2.setCell ⟨rp, 0, none⟩ (.slice (some ⟨g, 0, none⟩) (n + 1) c')) x := by
      intro x hx
      refine hx.kept fr3 ?_
      intro e
      rcases List.mem_cons.1 e with e | e
      · exact hx.tyne RA.out.ring (by decide) e
      · rcases SL.out.2 with ⟨ev, _⟩ | ⟨g2, _, cur, ev, _, hg2, _⟩
        · rw [ev] at e
          simp [Value.ownBlock] at e
        · rw [ev] at e
          simp [Value.ownBlock] at e
          exact hx.tyne hg2 (by decide) e
    rcases List.mem_append.1 hx with hx | hx
    · exact key x (RA.out.frames x hx)
    · simp at hx
      subst hx
      exact key x FA.out
  · rw [List.map_append, List.nodup_append]
    exact ⟨RA.out.nod, by simp, fun a ha b hb' e => by simp at hb'; subst hb'; exact hb (e ▸ ha)⟩
end Go.Proofs.YtopaeomjndblkaaGreat

namespace Go.Proofs.YtopaeomjndblkaaGreat
open Go.RowKit Go.Maps

/-- A pool's fields. -/
structure Pf where
  d : Nat
  p : Nat
  start : Nat
  pages : Nat
  most : Nat
  rp : Nat
  mp : Nat
def PBox' (w : World) (pp : Nat) (x : Pf) : Prop := w.heap[pp]? = some (.cells #[.pointer (some ⟨x.d, 0, none⟩), .pointer (some ⟨x.p, 0, none⟩), .int .i64 (x.start : Int), .int .i64 (x.pages : Int), .int .i64 (x.most : Int), .pointer (some ⟨x.rp, 0, none⟩), .map (some x.mp)] 148)
theorem PBox'.kept {w w' : World} {pp : Nat} {x : Pf} {L : List Nat} (h : PBox' w pp x) (f : Fr L w w') (hp : pp ∉ L) : PBox' w' pp x := f.same hp h
theorem PBox'.c0 {w : World} {pp : Nat} {x : Pf} (h : PBox' w pp x) : w.cell? ⟨pp, 0, none⟩ = some (.pointer (some ⟨x.d, 0, none⟩)) := cell_of_row w pp 0 _ _ _ h
theorem PBox'.c1 {w : World} {pp : Nat} {x : Pf} (h : PBox' w pp x) : w.cell? ⟨pp, 1, none⟩ = some (.pointer (some ⟨x.p, 0, none⟩)) := cell_of_row w pp 1 _ _ _ h
theorem PBox'.c2 {w : World} {pp : Nat} {x : Pf} (h : PBox' w pp x) : w.cell? ⟨pp, 2, none⟩ = some (.int .i64 (x.start : Int)) := cell_of_row w pp 2 _ _ _ h
theorem PBox'.c3 {w : World} {pp : Nat} {x : Pf} (h : PBox' w pp x) : w.cell? ⟨pp, 3, none⟩ = some (.int .i64 (x.pages : Int)) := cell_of_row w pp 3 _ _ _ h
theorem PBox'.c4 {w : World} {pp : Nat} {x : Pf} (h : PBox' w pp x) : w.cell? ⟨pp, 4, none⟩ = some (.int .i64 (x.most : Int)) := cell_of_row w pp 4 _ _ _ h
theorem PBox'.c5 {w : World} {pp : Nat} {x : Pf} (h : PBox' w pp x) : w.cell? ⟨pp, 5, none⟩ = some (.pointer (some ⟨x.rp, 0, none⟩)) := cell_of_row w pp 5 _ _ _ h
theorem PBox'.c6 {w : World} {pp : Nat} {x : Pf} (h : PBox' w pp x) : w.cell? ⟨pp, 6, none⟩ = some (.map (some x.mp)) := cell_of_row w pp 6 _ _ _ h
theorem PBox'.ne {w : World} {pp : Nat} {x : Pf} (h : PBox' w pp x) {k : Nat} (hk : ∀ cur t, w.heap[k]? = some (.cells cur t) → t ≠ 148) : pp ≠ k := by
  intro e
  subst e
  exact hk _ _ h rfl

set_option maxHeartbeats 1000000 in
theorem spare_any {w : World} {pp : Nat} {x : Pf} (h : PBox' w pp x) {sa : Option Addr} {sc hand : Nat} {fs : List Fm} (r : Rn w x.rp sa sc hand fs) :
    Calls Tryz.prog 245 #[.pointer (some ⟨pp, 0, none⟩)] w fun e w' => ∃ nq, e = .returned (.bool (decide (fs.length < x.most))) ∧ w' = w.drewN nq := by
  have c5 := h.c5
  have c4 := h.c4
  have r0 := r.r0
  by_cases hl : fs.length < x.most
  · have q : (fs.length : Int) < (x.most : Int) := by omega
    rw [decide_eq_true hl]
    go_enter Tryz.func245, Tryz.ntmps245
    go_wp2
    go_quiet (fail)
    go_wp2
    go_ret
    exact ⟨_, rfl, rfl⟩
  · have q : ¬ (fs.length : Int) < (x.most : Int) := by omega
    rw [decide_eq_false hl]
    go_enter Tryz.func245, Tryz.ntmps245
    go_wp2
    go_quiet (fail)
    go_wp2
    go_ret
    exact ⟨_, rfl, rfl⟩
theorem dirty_any {w : World} {f : Fm} (h : FAt w f) : Calls Tryz.prog 187 #[.pointer (some ⟨f.b, 0, none⟩)] w fun e w' => e = .returned (.bool (decide (0 < f.fst))) ∧ w' = w := by
  have c4 := h.c4
  by_cases hl : 0 < f.fst
  · rw [decide_eq_true hl]
    go_enter Tryz.func187, Tryz.ntmps187
    go_wp2
    go_ret
    exact ⟨rfl, rfl⟩
  · rw [decide_eq_false hl]
    go_enter Tryz.func187, Tryz.ntmps187
    go_wp2
    go_ret
    exact ⟨rfl, rfl⟩
theorem FAt.src {w : World} {f : Fm} (h : FAt w f) : Dv.Src w f.b 1 f.l := by
  intro j v hv
  obtain ⟨b, o, e, hc⟩ := h.bytes j v hv
  cases e
  exact hc

set_option maxHeartbeats 1000000 in
theorem pwrite_any {w : World} {pp : Nat} {x : Pf} (h : PBox' w pp x) {bs bo : Nat} {nb : Int} {S O : Dv.Tab} (hd : Dv.Dev w x.d bs bo nb 0 false S O) {f : Fm} (hf : FAt w f) (hk : (x.start : Int) + (f.pg : Int) < nb) :
    Calls Tryz.prog 173 #[.pointer (some ⟨pp, 0, none⟩), .pointer (some ⟨f.b, 0, none⟩)] w fun e w' => e = .returned (.int .i64 0) ∧ Dv.Dev w' x.d bs bo nb 0 false S (Dv.Tab.put O ((x.start : Int) + (f.pg : Int)) f.l) ∧ FAt w' { f with fst := 0 } ∧ Fr [x.d, bo, f.b] w w' := by
  have n2 := hd.n2
  have c0 := h.c0
  have c2 := h.c2
  have f0 := hf.c0
  have HD := hidI hd
  have HF := hidI hf
  have hw : IntKind.i64.wrap ((x.start : Int) + (f.pg : Int)) = (x.start : Int) + (f.pg : Int) := wrapI _ (by omega) (by omega)
  have hfd : f.b ∉ [x.d, bo] := by
    simp only [List.mem_cons, List.not_mem_nil, or_false, not_or]
    refine ⟨hf.tyne hd.cells (by decide), ?_⟩
    intro e
    obtain ⟨D', ⟨es, clock, hb, _⟩, _⟩ := hd.opn
    have := hf.at'
    rw [e, hb] at this
    cases this
  clear hd h hf
  go_enter Tryz.func173, Tryz.ntmps173
  go_wp2_with fail
  go_region_law ((go_simp; go_at_call 129; refine (Dv.write_dev (dev_kept HD.out (Fr.refl [] w).drew (by simp) (by simp) (by simp)) ((x.start : Int) + (f.pg : Int)) (by omega) hk f.b 1 512 f.l HF.out.len (HF.out.kept (Fr.refl [] w).drew (by simp)).src).mono ?_; rintro e w3 ⟨rfl, D3, f3⟩))
  all_goals
    have g3 : Fr [x.d, bo] w w3 := (Fr.refl _ w).drew.trans (fr_dv f3)
    have F3 := HF.out.kept g3 hfd
    have f4 := F3.c4
    have z4 := F3.fz 515
    have F4 := hidI (F3.s4 0)
    have D4 := hidI (dev_kept D3 (fr_set w3 f.b 515 (.int .i64 0)) (by simpa using fun e : x.d = f.b => hfd (by simp [e])) (by simp; intro e; have h1 := F3.at'; rw [← e] at h1; obtain ⟨D', ⟨es, clock, hb, _⟩, _⟩ := D3.safe; rw [hb] at h1; cases h1) (by simpa using fun e : bo = f.b => hfd (by simp [e])))
    have G4 := hidI ((g3.mono (M := [x.d, bo, f.b]) (by simp; omega)).trans ((fr_set w3 f.b 515 (.int .i64 0)).mono (by intro k _ hk; simp at hk; simp [hk])))
    clear D3 F3 f3 g3
    rw [show Dv.told (Dv.crash 0) = 0 from rfl]
    go_wp2_with fail
    go_ret
    exact ⟨rfl, D4.out, F4.out, G4.out⟩
end Go.Proofs.YtopaeomjndblkaaGreat

