/-
  The pool as one: its device, log, ring, map; what is its own in memory.
-/
import Derived.Test.YthajipigppndgaaGreatY13Z
import Derived.Test.YthajipigppndgaaGreatY16Z
import Derived.Test.YthajipigppndgaaGreatY05Z
import Derived.Test.YthajipigppndgaaGreatY14Z
import Derived.Test.YthajipigppndgaaGreatY15Z
import Derived.Test.YthajipigppndgaaGreatY12Z
import Derived.Maps.AppendAt
namespace Go.Proofs.YthajipigppndgaaGreat
open Go.RowKit Go.Maps

/-- The places of a log's records rise, from the oldest one on. -/
structure LsOk (y : Lo) : Prop where
  rise : y.ls.Pairwise (· < ·)
  le : ∀ v ∈ y.ls, (y.A : Int) + 1 ≤ v ∧ v ≤ (y.E : Int)
theorem bin_found {ls : List Int} (hr : ls.Pairwise (· < ·)) {k : Int} {i j : Nat} (hi : ls[i]? = some k) (hj : BinAt ls k j) : ls[j]? = some k := by
  obtain ⟨hil, hie⟩ := List.getElem?_eq_some_iff.1 hi
  have hp := List.pairwise_iff_getElem.1 hr
  rcases Nat.lt_trichotomy i j with h | h | h
  · exfalso
    have hjl : j - 1 < ls.length := by have := hj.le; omega
    have h1 := hj.lo _ (by omega) (List.getElem?_eq_getElem hjl)
    by_cases e : i = j - 1
    · subst e
      omega
    · have := hp i (j - 1) hil hjl (by omega)
      omega
  · subst h
    exact hi
  · exfalso
    have hjl : j < ls.length := by omega
    have h1 := hj.hi _ (List.getElem?_eq_getElem hjl)
    have := hp j i hjl hil h
    omega
set_option maxHeartbeats 1000000 in
set_option maxRecDepth 100000 in
theorem lo_read {w : World} {y : Lo} (h : LoAt w y) (hr : LsOk y) {i a : Nat} (hi : y.ls[i]? = some ((a : Int) + 1)) (ha : y.A ≤ a) (hE : a < y.E) (hsz : y.E ≤ a + 100000) {r : Rec} {m : Nat} (hd : decR (y.lb.drop (a - y.F)) = some (r, m)) :
    Calls Tryz.prog 118 #[.pointer (some ⟨y.p, 0, none⟩), .int .i64 ((a : Int) + 1)] w fun e w' => ∃ s, e = .returned (.tuple #[.agg (recV r s), .int .i64 0]) ∧ NewSpots w w' r s ∧ Fr [] w w' := by
  have hEE := h.hE
  have h22 := h.h2
  have hlb := h.lbl
  have hhn := h.hn
  have hFA := h.hFA
  have hls : y.ls.length = y.n2 := by
    have h1 := h.lsA.1
    simpa [lsV] using h1
  have rR : RBox (w.alloc (.cells #[.int .i64 0, .int .i64 0, .int .u8 0, .int .i64 0, .int .i64 0, .int .i64 0, .int .i64 0, .int .i64 0, .slice none 0 0, .slice none 0 0] 148)) w.heap.size (zeroR 0 0) zeroS := heap_alloc_new w _
  have f1 := (Fr.refl [] w).alloc (.cells #[.int .i64 0, .int .i64 0, .int .u8 0, .int .i64 0, .int .i64 0, .int .i64 0, .int .i64 0, .int .i64 0, .slice none 0 0, .slice none 0 0] 148)
  have HH := hidI h
  have HR := hidI hr
  have HI := hidI hi
  have HD := hidI hd
  clear h hr hi hd
  go_enter Tryz.func118, Tryz.ntmps118
  go_wp2_with fail
  generalize w.alloc (.cells #[.int .i64 0, .int .i64 0, .int .u8 0, .int .i64 0, .int .i64 0, .int .i64 0, .int .i64 0, .int .i64 0, .slice none 0 0, .slice none 0 0] 148) = w1 at rR f1 ⊢
  have H1 := hidI (HH.out.kept f1 (by simp))
  have k0 : w1.cell? ⟨y.p, 0, none⟩ = some (.pointer (some ⟨y.d, 0, none⟩)) := H1.out.box.c0
  have k9 : w1.cell? ⟨y.p, 9, none⟩ = some (.slice y.a2 y.n2 y.c2) := H1.out.box.c9
  refine (lmade_yes _ y.p y.d k0).mono ?_
  rintro e w1 ⟨rfl, rfl⟩
  go_wp2_with fail
  obtain ⟨s1, s2⟩ := H1.out.lsA.src hls
  refine (bin_any w1 y.a2 y.n2 y.c2 y.ls ((a : Int) + 1) hls (by omega) (fun j v hj => ?_)).mono ?_
  · cases hx : y.a2 with
    | none =>
      have := (s1 hx).1
      have := (List.getElem?_eq_some_iff.1 hj).1
      omega
    | some x =>
      obtain ⟨g, rfl, _, hc⟩ := s2 x hx
      exact ⟨g, rfl, hc j v hj⟩
  rintro e w2 ⟨j, rfl, rfl, hbin⟩
  rw [decide_eq_true (bin_found HR.out.rise HI.out hbin)]
  clear s1 s2 hbin
  have hlen : y.n = (a - y.F) + (y.E - a) := by omega
  obtain ⟨g, had, B1, hbb⟩ := H1.out.bsA.at (by omega) hlb
  obtain ⟨c, hcb⟩ : ∃ c, y.cb = c := ⟨_, rfl⟩
  rw [hcb] at hbb
  have L1 : LBox w2 y.p ⟨.pointer (some ⟨y.d, 0, none⟩), y.first, y.count, (y.T : Int), (y.A : Int) + 1, (y.P : Int) + 1, (y.E : Int) + 1, .slice (some ⟨g, 0, none⟩) y.n c, (y.F : Int) + 1, .slice y.a2 y.n2 y.c2⟩ := by
    have := H1.out.box
    unfold Lo.lg at this
    rw [had, hcb] at this
    exact this
  go_wp2_with fail
  refine (record_any w2 y.p _ y.first y.count y.T _ _ _ ((y.F : Int) + 1) ((a : Int) + 1) _ g y.n c (a - y.F) (y.E - a) (c - (a - y.F)) y.lb m r L1 B1 hlb (by omega) hlen (by omega) (by omega) hbb ?_ HD.out).mono ?_
  · rw [wrapI _ (by omega) (by omega)]
    omega
  rintro e w3 ⟨s, rfl, ns, f2⟩
  have r2 := rR.kept f2 (by simp)
  go_wp2_with (refine wp_storeR rfl _ _ rfl w.heap.size _ r _ s rfl rfl r2 ?_; intro w4 r3 f3)
  refine bodyPost_ret (resR2 rfl _ _ w.heap.size r s rfl r3) rfl ⟨s, rfl, ?_, (f1.trans f2).then f3 (fun i hi hm => by simp at hm; omega)⟩
  refine new_base (ns.kept f3 (fun g' hg' cur t h => ?_)) f1.size
  simp at hg'
  subst hg'
  have h1 := r2
  unfold RBox at h1
  rw [h1] at h
  cases h
  decide
end Go.Proofs.YthajipigppndgaaGreat

namespace Go.Proofs.YthajipigppndgaaGreat
open Go.RowKit Go.Maps

structure Dl where
  st : Int
  num : Int
  chg : Int
  last : Int
  next : Int
  und : Int
  kept : Int
def dl0 : Dl := ⟨0, 0, 0, 0, 0, 0, 0⟩
def DlAt (w : World) (p : Nat) (x : Dl) : Prop := w.heap[p]? = some (.cells #[.int .i64 x.st, .int .i64 x.num, .int .i64 x.chg, .int .i64 x.last, .int .i64 x.next, .int .i64 x.und, .int .i64 x.kept] 93)
theorem DlAt.kept' {w w' : World} {p : Nat} {x : Dl} {L : List Nat} (h : DlAt w p x) (f : Fr L w w') (hp : p ∉ L) : DlAt w' p x := f.same hp h
theorem DlAt.lt {w : World} {p : Nat} {x : Dl} (h : DlAt w p x) : p < w.heap.size := (Array.getElem?_eq_some_iff.1 h).1
theorem DlAt.fz {w : World} {p : Nat} {x : Dl} (h : DlAt w p x) (j : Nat) : w.frozen? ⟨p, j, none⟩ = false := frozen_of_row w p j _ _ h
theorem DlAt.c0 {w : World} {p : Nat} {x : Dl} (h : DlAt w p x) : w.cell? ⟨p, 0, none⟩ = some (.int .i64 x.st) := cell_of_row w p 0 _ _ _ h
theorem DlAt.s0 {w : World} {p : Nat} {x : Dl} (h : DlAt w p x) (v : Int) : DlAt (w.setCell ⟨p, 0, none⟩ (.int .i64 v)) p { x with st := v } := heap_setCell_same w p 0 _ _ _ h
theorem DlAt.c1 {w : World} {p : Nat} {x : Dl} (h : DlAt w p x) : w.cell? ⟨p, 1, none⟩ = some (.int .i64 x.num) := cell_of_row w p 1 _ _ _ h
theorem DlAt.s1 {w : World} {p : Nat} {x : Dl} (h : DlAt w p x) (v : Int) : DlAt (w.setCell ⟨p, 1, none⟩ (.int .i64 v)) p { x with num := v } := heap_setCell_same w p 1 _ _ _ h
theorem DlAt.c2 {w : World} {p : Nat} {x : Dl} (h : DlAt w p x) : w.cell? ⟨p, 2, none⟩ = some (.int .i64 x.chg) := cell_of_row w p 2 _ _ _ h
theorem DlAt.s2 {w : World} {p : Nat} {x : Dl} (h : DlAt w p x) (v : Int) : DlAt (w.setCell ⟨p, 2, none⟩ (.int .i64 v)) p { x with chg := v } := heap_setCell_same w p 2 _ _ _ h
theorem DlAt.c3 {w : World} {p : Nat} {x : Dl} (h : DlAt w p x) : w.cell? ⟨p, 3, none⟩ = some (.int .i64 x.last) := cell_of_row w p 3 _ _ _ h
theorem DlAt.s3 {w : World} {p : Nat} {x : Dl} (h : DlAt w p x) (v : Int) : DlAt (w.setCell ⟨p, 3, none⟩ (.int .i64 v)) p { x with last := v } := heap_setCell_same w p 3 _ _ _ h
theorem DlAt.c4 {w : World} {p : Nat} {x : Dl} (h : DlAt w p x) : w.cell? ⟨p, 4, none⟩ = some (.int .i64 x.next) := cell_of_row w p 4 _ _ _ h
theorem DlAt.s4 {w : World} {p : Nat} {x : Dl} (h : DlAt w p x) (v : Int) : DlAt (w.setCell ⟨p, 4, none⟩ (.int .i64 v)) p { x with next := v } := heap_setCell_same w p 4 _ _ _ h
theorem DlAt.c5 {w : World} {p : Nat} {x : Dl} (h : DlAt w p x) : w.cell? ⟨p, 5, none⟩ = some (.int .i64 x.und) := cell_of_row w p 5 _ _ _ h
theorem DlAt.s5 {w : World} {p : Nat} {x : Dl} (h : DlAt w p x) (v : Int) : DlAt (w.setCell ⟨p, 5, none⟩ (.int .i64 v)) p { x with und := v } := heap_setCell_same w p 5 _ _ _ h
theorem DlAt.c6 {w : World} {p : Nat} {x : Dl} (h : DlAt w p x) : w.cell? ⟨p, 6, none⟩ = some (.int .i64 x.kept) := cell_of_row w p 6 _ _ _ h
theorem DlAt.s6 {w : World} {p : Nat} {x : Dl} (h : DlAt w p x) (v : Int) : DlAt (w.setCell ⟨p, 6, none⟩ (.int .i64 v)) p { x with kept := v } := heap_setCell_same w p 6 _ _ _ h
def BBox (w : World) (p d l pp dp : Nat) : Prop := w.heap[p]? = some (.cells #[.pointer (some ⟨d, 0, none⟩), .pointer (some ⟨l, 0, none⟩), .pointer (some ⟨pp, 0, none⟩), .pointer (some ⟨dp, 0, none⟩)] 38)
theorem BBox.kept {w w' : World} {p d l pp dp : Nat} {L : List Nat} (h : BBox w p d l pp dp) (f : Fr L w w') (hp : p ∉ L) : BBox w' p d l pp dp := f.same hp h
theorem BBox.lt {w : World} {p d l pp dp : Nat} (h : BBox w p d l pp dp) : p < w.heap.size := (Array.getElem?_eq_some_iff.1 h).1
theorem BBox.c0 {w : World} {p d l pp dp : Nat} (h : BBox w p d l pp dp) : w.cell? ⟨p, 0, none⟩ = some (.pointer (some ⟨d, 0, none⟩)) := cell_of_row w p 0 _ _ _ h
theorem BBox.c1 {w : World} {p d l pp dp : Nat} (h : BBox w p d l pp dp) : w.cell? ⟨p, 1, none⟩ = some (.pointer (some ⟨l, 0, none⟩)) := cell_of_row w p 1 _ _ _ h
theorem BBox.c2 {w : World} {p d l pp dp : Nat} (h : BBox w p d l pp dp) : w.cell? ⟨p, 2, none⟩ = some (.pointer (some ⟨pp, 0, none⟩)) := cell_of_row w p 2 _ _ _ h
theorem BBox.c3 {w : World} {p d l pp dp : Nat} (h : BBox w p d l pp dp) : w.cell? ⟨p, 3, none⟩ = some (.pointer (some ⟨dp, 0, none⟩)) := cell_of_row w p 3 _ _ _ h
theorem sizeD : (Tryz.prog.info? 93).map (·.size) = some 7 := by kernel_rfl
section
variable {ops : Array Oper} {rest : List Oper} {o : Oper} {a : Act} {w : World} {Q : Exit → Act → World → Prop}
theorem wp_storeD (hgd : o.guard = none) (x y : Operand) (ho : o.op = .store 93 x y) (b : Nat) (r r' : Dl) (hx : a.eval x = .pointer (some ⟨b, 0, none⟩)) (hy : a.eval y = .agg #[.int .i64 r'.st, .int .i64 r'.num, .int .i64 r'.chg, .int .i64 r'.last, .int .i64 r'.next, .int .i64 r'.und, .int .i64 r'.kept]) (hg : DlAt w b r)
    (h : ∀ w', DlAt w' b r' → Fr [b] w w' → wpList Tryz.prog ops Q rest (a.put o.dst undef) w') : wpList Tryz.prog ops Q (o :: rest) a w := by
  exact wpList_store_row hgd 93 x y ho b #[.int .i64 r'.st, .int .i64 r'.num, .int .i64 r'.chg, .int .i64 r'.last, .int .i64 r'.next, .int .i64 r'.und, .int .i64 r'.kept] hx hy 93 _ hg sizeD rfl (by simp; exact ⟨rfl, rfl, rfl, rfl, rfl, rfl, rfl⟩)
    (h _ (setRow_heap w b _ _ _ _ hg) ⟨rfl, rfl, rfl, by simp, fun i _ hn => setRow_other w b i _ (fun e => hn (by simp [e]))⟩)
end
/-- No book: nil, or one that nobody made. -/
def NoBook (w : World) (v : Value) : Prop := v = .pointer none ∨ ∃ p, v = .pointer (some ⟨p, 0, none⟩) ∧ w.cell? ⟨p, 0, none⟩ = some (.pointer none)
theorem NoBook.kept {w w' : World} {v : Value} {L : List Nat} (h : NoBook w v) (f : Fr L w w') (hL : ∀ p, v = .pointer (some ⟨p, 0, none⟩) → p ∉ L) : NoBook w' v := by
  rcases h with rfl | ⟨p, rfl, h⟩
  · exact Or.inl rfl
  · refine Or.inr ⟨p, rfl, ?_⟩
    rw [← h]
    exact World.cell?_of_block (f.block p (block_lt_of_cell h) (hL p rfl))
theorem bmade_no (w : World) (v : Value) (h : NoBook w v) : Calls Tryz.prog 42 #[v] w fun e w' => e = .returned (.bool false) ∧ w' = w := by
  rcases h with rfl | ⟨p, rfl, h⟩
  · go_enter Tryz.func42, Tryz.ntmps42
    go_wp2
    go_ret
    exact ⟨rfl, rfl⟩
  · go_enter Tryz.func42, Tryz.ntmps42
    go_wp2
    go_ret
    exact ⟨rfl, rfl⟩
theorem bmade_yes {w : World} {p d l pp dp : Nat} (h : BBox w p d l pp dp) : Calls Tryz.prog 42 #[.pointer (some ⟨p, 0, none⟩)] w fun e w' => e = .returned (.bool true) ∧ w' = w := by
  have c0 := h.c0
  go_enter Tryz.func42, Tryz.ntmps42
  go_wp2
  go_ret
  exact ⟨rfl, rfl⟩
theorem bpages_no (w : World) (v : Value) (h : NoBook w v) : Calls Tryz.prog 16 #[v] w fun e w' => e = .returned (.int .i64 0) ∧ w' = w := by
  go_enter Tryz.func16, Tryz.ntmps16
  go_wp2_with (go_at_call 42; refine (bmade_no _ _ h).mono ?_; rintro e wz ⟨rfl, hz⟩; rw [hz]; clear hz)
  go_ret
  exact ⟨rfl, rfl⟩
theorem bkin_any {w : World} {p d l pp dp : Nat} (h : BBox w p d l pp dp) {x : Dl} (hx : DlAt w dp x) : Calls Tryz.prog 81 #[.pointer (some ⟨p, 0, none⟩)] w fun e w' => e = .returned (.bool (x.st != 0)) ∧ w' = w := by
  have c3 := h.c3
  have d0 := hx.c0
  go_enter Tryz.func81, Tryz.ntmps81
  go_wp2_with (go_at_call 42; refine (bmade_yes h).mono ?_; rintro e wz ⟨rfl, hz⟩; rw [hz]; clear hz)
  go_ret
  exact ⟨rfl, rfl⟩
theorem idle_out {w : World} {p d l pp dp : Nat} (h : BBox w p d l pp dp) {x : Dl} (hx : DlAt w dp x) (h0 : x.st = 0) : Calls Tryz.prog 58 #[.pointer (some ⟨p, 0, none⟩)] w fun e w' => e = .returned (.int .i64 0) ∧ w' = w := by
  have hb : (x.st != 0) = false := by simpa using h0
  clear h0
  go_enter Tryz.func58, Tryz.ntmps58
  go_wp2_with (first | (go_at_call 42; refine (bmade_yes h).mono ?_; rintro e wz ⟨rfl, hz⟩; rw [hz]; clear hz) | (go_at_call 81; refine (bkin_any h hx).mono ?_; rw [hb]; rintro e wz ⟨rfl, hz⟩; rw [hz]; clear hz))
  go_ret
  exact ⟨rfl, rfl⟩
/-- A transaction that stands as the first of those that are asked for. -/
theorem within_in {w : World} {p d l pp dp : Nat} (h : BBox w p d l pp dp) {x : Dl} (hx : DlAt w dp x) (h0 : x.st = 1) (g n c : Nat) (hn : 1 ≤ n) (hg : w.cell? ⟨g, 0, none⟩ = some (.int .i64 1)) : Calls Tryz.prog 44 #[.pointer (some ⟨p, 0, none⟩), .slice (some ⟨g, 0, none⟩) n c] w fun e w' => e = .returned (.int .i64 0) ∧ w' = w := by
  have c3 := h.c3
  have d0 := hx.c0
  rw [h0] at d0
  clear h0
  have q : (0 : Int) < (n : Int) := by omega
  go_enter Tryz.func44, Tryz.ntmps44
  go_wp2_with (go_at_call 42; refine (bmade_yes h).mono ?_; rintro e wz ⟨rfl, hz⟩; rw [hz]; clear hz)
  go_loopw [12] (fun s12 wr => s12 = .int .i64 0 ∧ wr = w) (fun _ _ => 0)
  case atStart => exact ⟨rfl, rfl⟩
  case round =>
    obtain ⟨rfl, hwr⟩ := hrel
    subst hwr
    go_wp2_with fail
    go_ret
    exact ⟨rfl, rfl⟩
/-- The transaction is ended. -/
theorem leave_any {w : World} {p d l pp dp : Nat} (h : BBox w p d l pp dp) {x : Dl} (hx : DlAt w dp x) : Calls Tryz.prog 53 #[.pointer (some ⟨p, 0, none⟩)] w fun e w' => e = .returned (.int .i64 0) ∧ DlAt w' dp dl0 ∧ Fr [dp] w w' := by
  have c3 := h.c3
  go_enter Tryz.func53, Tryz.ntmps53
  go_wp2_with (refine wp_storeD rfl _ _ rfl dp x dl0 rfl rfl hx ?_; intro w2 x2 f2)
  go_ret
  exact ⟨rfl, x2, f2⟩
end Go.Proofs.YthajipigppndgaaGreat

namespace Go.Proofs.YthajipigppndgaaGreat
open Go.RowKit Go.Maps

theorem infoPF : (Tryz.prog.info? 195).map (fun i => (i.zero, i.size, i.bytes)) = some (some (.pointer none), 1, 8) := by kernel_rfl
theorem infoPF' : ∃ i, Tryz.prog.info? 195 = some i ∧ i.zero = some (.pointer none) ∧ i.size = 1 ∧ i.bytes = 8 := by
  have h := infoPF
  cases hi : Tryz.prog.info? 195 with
  | none => rw [hi] at h; cases h
  | some i =>
    rw [hi] at h
    simp at h
    exact ⟨i, rfl, h.1, h.2.1, h.2.2⟩
section
variable {ops : Array Oper} {rest : List Oper} {o : Oper} {a : Act} {w : World} {Q : Exit → Act → World → Prop}
/-- append of a frame to a row of frames. -/
theorem wp_appF (hgd : o.guard = none) (s x : Operand) (ho : o.op = .call { callee := .builtin .append, args := #[s, x], argTypes := #[220, 220] }) (ad : Option Addr) (n c : Nat) (fs : List Fm) (b : Nat) (f : Fm) (hs : a.eval s = .slice ad n c) (hx : a.eval x = .slice (some ⟨b, 0, none⟩) 1 1)
    (hown : w.ownsRow 0 195 1 (.slice ad n c) n (slV fs)) (hb : w.heap[b]? = some (.cells #[.pointer (some ⟨f.b, 0, none⟩)] 195)) (hm : n + 1 ≤ 1000000)
    (h : ∀ g c' w', w'.ownsRow 0 195 1 (.slice (some ⟨g, 0, none⟩) (n + 1) c') (n + 1) (slV (fs ++ [f])) → Fr (Value.ownBlock (.slice ad n c)).toList w w' → NewOr ad n c g w.heap.size → wpList Tryz.prog ops Q rest (a.put o.dst (.slice (some ⟨g, 0, none⟩) (n + 1) c')) w') : wpList Tryz.prog ops Q (o :: rest) a w :=
  wpList_plain hgd fun K hK => by
    obtain ⟨i, hi, hz, hsz, hbb⟩ := infoPF'
    obtain ⟨v', w', hrun, h2, h3, h4, h5⟩ := run_append_own_at (P := Tryz.prog) w 0 220 o.type 195 i (.pointer none) 1 8 Tryz.underlying220 hi hz hsz hbb rfl (by omega) _ n (slV fs) hown ⟨b, 0, none⟩ 1 1 [.pointer (some ⟨f.b, 0, none⟩)] (by simp)
      (by
        intro j x hx
        cases j with
        | zero =>
          simp at hx
          subst hx
          rw [Addr.add_mid]
          exact cell_of_row w b 0 _ _ _ hb
        | succ j => simp at hx) (by intro x hx; simp at hx; subst hx; rfl) (by unfold maxLen; omega) (by omega) (Nat.zero_le _)
    rcases h2.2 with ⟨e, hn0⟩ | ⟨g, c', cur, e, r⟩
    · omega
    · subst e
      have h2' : w'.ownsRow 0 195 1 (.slice (some ⟨g, 0, none⟩) (n + 1) c') (n + 1) (slV (fs ++ [f])) := by
        unfold slV
        rw [List.map_append]
        exact h2
      unfold Oper.wp execOp
      simp [ho, resolve, invoke, builtin, hs, hx, hrun, Result.andThen]
      exact hK _ _ (h _ _ _ h2' ((Fr.refl _ _).grown h3 (fun j e _ => by simp [e])) (new_of h5))
end
set_option maxHeartbeats 2000000 in
theorem add_any {w : World} {rp : Nat} {sa : Option Addr} {sc hand : Nat} {fs : List Fm} (h : Rn w rp sa sc hand fs) (hm : fs.length < 1024) {f : Fm} (hf : FAt w f) (hb : f.b ∉ fs.map (·.b)) :
    Calls Tryz.prog 283 #[.pointer (some ⟨rp, 0, none⟩), .pointer (some ⟨f.b, 0, none⟩)] w fun e w' => e = .returned (.tuple #[]) ∧ ∃ g c', Rn w' rp (some ⟨g, 0, none⟩) c' hand (fs ++ [f]) ∧ NewOr sa fs.length sc g w.heap.size ∧ Fr (rp :: (Value.ownBlock (.slice sa fs.length sc)).toList) w w' := by
  have c0 := h.r0
  have HR := hidI h
  have HF := hidI hf
  have hne := h.rp_ne
  obtain ⟨n, HN⟩ : ∃ n, Hid (fs.length = n) := ⟨_, rfl⟩
  rw [HN.out] at c0 hm ⊢
  rw [HN.out] at hne
  clear h
  have fa : Fr [] w (w.alloc (.cells #[.pointer (some ⟨f.b, 0, none⟩)] 195)) := (Fr.refl [] w).alloc _
  have RA := hidI (HR.out.kept fa (by simp))
  have FA := hidI (HF.out.kept fa (by simp))
  have SL : Hid ((w.alloc (.cells #[.pointer (some ⟨f.b, 0, none⟩)] 195)).ownsRow 0 195 1 (.slice sa n sc) n (slV fs)) := hidI (by have := RA.out.slots; rw [HN.out] at this; exact this)
  have hrr : rp ∉ (Value.ownBlock (.slice sa n sc)).toList := fun e => hne.1 rp e rfl
  have RK : Hid (∀ w2, Fr (Value.ownBlock (.slice sa n sc)).toList (w.alloc (.cells #[.pointer (some ⟨f.b, 0, none⟩)] 195)) w2 → w2.heap[rp]? = some (.cells #[.slice sa n sc, .int .i64 (hand : Int)] 315)) := hidI (fun w2 f2 => by have := f2.same hrr RA.out.ring; rw [HN.out] at this; exact this)
  go_enter Tryz.func283, Tryz.ntmps283
  go_wp2_with (refine wp_appF rfl _ _ rfl sa n sc fs w.heap.size f rfl rfl SL.out (heap_alloc_new w _) (by omega) ?_; intro g c' w2 own2 f2 n2; have r2 := RK.out w2 f2; have d0 := cell_of_row w2 rp 0 _ _ _ r2; have z0 := frozen_of_row w2 rp 0 _ _ r2)
  go_end0
  have hsz := fa.size
  have fT : Fr (rp :: (Value.ownBlock (.slice sa n sc)).toList) w w2 := (fa.mono (fun _ _ e => nomatch e)).trans (f2.mono (fun k _ hk => List.mem_cons_of_mem _ hk))
  have own3 : (w2.setCell ⟨rp, 0, none⟩ (.slice (some ⟨g, 0, none⟩) (n + 1) c')).ownsRow 0 195 1 (.slice (some ⟨g, 0, none⟩) (n + 1) c') (n + 1) (slV (fs ++ [f])) := own_kb own2 (fr_set _ _ _ _) (by
    intro g' hg' e
    simp [Value.ownBlock] at hg' e
    subst hg'
    subst e
    rcases own2.2 with ⟨e, _⟩ | ⟨g2, _, cur, e, _, hg2, _⟩
    · cases e
    · cases e
      rw [r2] at hg2
      simp at hg2)
  have hlen : (fs ++ [f]).length = n + 1 := by rw [List.length_append, HN.out]; rfl
  refine ⟨rfl, g, c', ⟨?_, ?_, ?_, ?_⟩, n2.imp id (fun h1 => by omega), fT.setCell _ _ (fun _ => List.mem_cons_self)⟩
  · rw [hlen]
    exact heap_setCell_same w2 rp 0 _ _ _ r2
  · rw [hlen]
    exact own3
  · intro x hx
    have fr3 : Fr (rp :: (Value.ownBlock (.slice sa n sc)).toList) (w.alloc (.cells #[.pointer (some ⟨f.b, 0, none⟩)] 195)) (w2.setCell ⟨rp, 0, none⟩ (.slice (some ⟨g, 0, none⟩) (n + 1) c')) := (f2.mono (fun k _ hk => List.mem_cons_of_mem _ hk)).setCell _ _ (fun _ => List.mem_cons_self)
    have key : ∀ x, FAt (w.alloc (.cells #[.pointer (some ⟨f.b, 0, none⟩)] 195)) x → FAt (w2.setCell ⟨rp, 0, none⟩ (.slice (some ⟨g, 0, none⟩) (n + 1) c')) x := by
      intro x hx
      refine hx.kept fr3 ?_
      intro e
      rcases List.mem_cons.1 e with e | e
      · exact hx.tyne RA.out.ring (by decide) e
      · rcases SL.out.2 with ⟨ev, _⟩ | ⟨g2, _, cur, ev, _, hg2, _⟩
        · rw [ev] at e
          simp [Value.ownBlock] at e
        · rw [ev] at e
          simp [Value.ownBlock] at e
          exact hx.tyne hg2 (by decide) e
    rcases List.mem_append.1 hx with hx | hx
    · exact key x (RA.out.frames x hx)
    · simp at hx
      subst hx
      exact key x FA.out
  · rw [List.map_append, List.nodup_append]
    exact ⟨RA.out.nod, by simp, fun a ha b hb' e => by simp at hb'; subst hb'; exact hb (e ▸ ha)⟩
end Go.Proofs.YthajipigppndgaaGreat

namespace Go.Proofs.YthajipigppndgaaGreat
open Go.RowKit Go.Maps

/-- A pool's fields. -/
structure Pf where
  d : Nat
  p : Nat
  start : Nat
  pages : Nat
  most : Nat
  rp : Nat
  mp : Nat
def PBox' (w : World) (pp : Nat) (x : Pf) : Prop := w.heap[pp]? = some (.cells #[.pointer (some ⟨x.d, 0, none⟩), .pointer (some ⟨x.p, 0, none⟩), .int .i64 (x.start : Int), .int .i64 (x.pages : Int), .int .i64 (x.most : Int), .pointer (some ⟨x.rp, 0, none⟩), .map (some x.mp)] 140)
theorem PBox'.kept {w w' : World} {pp : Nat} {x : Pf} {L : List Nat} (h : PBox' w pp x) (f : Fr L w w') (hp : pp ∉ L) : PBox' w' pp x := f.same hp h
theorem PBox'.c0 {w : World} {pp : Nat} {x : Pf} (h : PBox' w pp x) : w.cell? ⟨pp, 0, none⟩ = some (.pointer (some ⟨x.d, 0, none⟩)) := cell_of_row w pp 0 _ _ _ h
theorem PBox'.c1 {w : World} {pp : Nat} {x : Pf} (h : PBox' w pp x) : w.cell? ⟨pp, 1, none⟩ = some (.pointer (some ⟨x.p, 0, none⟩)) := cell_of_row w pp 1 _ _ _ h
theorem PBox'.c2 {w : World} {pp : Nat} {x : Pf} (h : PBox' w pp x) : w.cell? ⟨pp, 2, none⟩ = some (.int .i64 (x.start : Int)) := cell_of_row w pp 2 _ _ _ h
theorem PBox'.c3 {w : World} {pp : Nat} {x : Pf} (h : PBox' w pp x) : w.cell? ⟨pp, 3, none⟩ = some (.int .i64 (x.pages : Int)) := cell_of_row w pp 3 _ _ _ h
theorem PBox'.c4 {w : World} {pp : Nat} {x : Pf} (h : PBox' w pp x) : w.cell? ⟨pp, 4, none⟩ = some (.int .i64 (x.most : Int)) := cell_of_row w pp 4 _ _ _ h
theorem PBox'.c5 {w : World} {pp : Nat} {x : Pf} (h : PBox' w pp x) : w.cell? ⟨pp, 5, none⟩ = some (.pointer (some ⟨x.rp, 0, none⟩)) := cell_of_row w pp 5 _ _ _ h
theorem PBox'.c6 {w : World} {pp : Nat} {x : Pf} (h : PBox' w pp x) : w.cell? ⟨pp, 6, none⟩ = some (.map (some x.mp)) := cell_of_row w pp 6 _ _ _ h
theorem PBox'.ne {w : World} {pp : Nat} {x : Pf} (h : PBox' w pp x) {k : Nat} (hk : ∀ cur t, w.heap[k]? = some (.cells cur t) → t ≠ 140) : pp ≠ k := by
  intro e
  subst e
  exact hk _ _ h rfl

set_option maxHeartbeats 1000000 in
theorem spare_any {w : World} {pp : Nat} {x : Pf} (h : PBox' w pp x) {sa : Option Addr} {sc hand : Nat} {fs : List Fm} (r : Rn w x.rp sa sc hand fs) :
    Calls Tryz.prog 280 #[.pointer (some ⟨pp, 0, none⟩)] w fun e w' => ∃ nq, e = .returned (.bool (decide (fs.length < x.most))) ∧ w' = w.drewN nq := by
  have c5 := h.c5
  have c4 := h.c4
  have r0 := r.r0
  by_cases hl : fs.length < x.most
  · have q : (fs.length : Int) < (x.most : Int) := by omega
    rw [decide_eq_true hl]
    go_enter Tryz.func280, Tryz.ntmps280
    go_wp2
    go_quiet (fail)
    go_wp2
    go_ret
    exact ⟨_, rfl, rfl⟩
  · have q : ¬ (fs.length : Int) < (x.most : Int) := by omega
    rw [decide_eq_false hl]
    go_enter Tryz.func280, Tryz.ntmps280
    go_wp2
    go_quiet (fail)
    go_wp2
    go_ret
    exact ⟨_, rfl, rfl⟩
theorem dirty_any {w : World} {f : Fm} (h : FAt w f) : Calls Tryz.prog 242 #[.pointer (some ⟨f.b, 0, none⟩)] w fun e w' => e = .returned (.bool (decide (0 < f.fst))) ∧ w' = w := by
  have c4 := h.c4
  by_cases hl : 0 < f.fst
  · rw [decide_eq_true hl]
    go_enter Tryz.func242, Tryz.ntmps242
    go_wp2
    go_ret
    exact ⟨rfl, rfl⟩
  · rw [decide_eq_false hl]
    go_enter Tryz.func242, Tryz.ntmps242
    go_wp2
    go_ret
    exact ⟨rfl, rfl⟩
theorem FAt.src {w : World} {f : Fm} (h : FAt w f) : Dv.Src w f.b 1 f.l := by
  intro j v hv
  obtain ⟨b, o, e, hc⟩ := h.bytes j v hv
  cases e
  exact hc

set_option maxHeartbeats 1000000 in
theorem pwrite_any {w : World} {pp : Nat} {x : Pf} (h : PBox' w pp x) {bs bo : Nat} {nb : Int} {S O : Dv.Tab} (hd : Dv.Dev w x.d bs bo nb 0 false S O) {f : Fm} (hf : FAt w f) (hk : (x.start : Int) + (f.pg : Int) < nb) :
    Calls Tryz.prog 184 #[.pointer (some ⟨pp, 0, none⟩), .pointer (some ⟨f.b, 0, none⟩)] w fun e w' => e = .returned (.int .i64 0) ∧ Dv.Dev w' x.d bs bo nb 0 false S (Dv.Tab.put O ((x.start : Int) + (f.pg : Int)) f.l) ∧ FAt w' { f with fst := 0 } ∧ Fr [x.d, bo, f.b] w w' := by
  have n2 := hd.n2
  have c0 := h.c0
  have c2 := h.c2
  have f0 := hf.c0
  have HD := hidI hd
  have HF := hidI hf
  have hw : IntKind.i64.wrap ((x.start : Int) + (f.pg : Int)) = (x.start : Int) + (f.pg : Int) := wrapI _ (by omega) (by omega)
  have hfd : f.b ∉ [x.d, bo] := by
    simp only [List.mem_cons, List.not_mem_nil, or_false, not_or]
    refine ⟨hf.tyne hd.cells (by decide), ?_⟩
    intro e
    obtain ⟨D', ⟨es, clock, hb, _⟩, _⟩ := hd.opn
    have := hf.at'
    rw [e, hb] at this
    cases this
  clear hd h hf
  go_enter Tryz.func184, Tryz.ntmps184
  go_wp2_with fail
  go_region_law ((go_simp; go_at_call 102; refine (Dv.write_dev (dev_kept HD.out (Fr.refl [] w).drew (by simp) (by simp) (by simp)) ((x.start : Int) + (f.pg : Int)) (by omega) hk f.b 1 512 f.l HF.out.len (HF.out.kept (Fr.refl [] w).drew (by simp)).src).mono ?_; rintro e w3 ⟨rfl, D3, f3⟩))
  all_goals
    have g3 : Fr [x.d, bo] w w3 := (Fr.refl _ w).drew.trans (fr_dv f3)
    have F3 := HF.out.kept g3 hfd
    have f4 := F3.c4
    have z4 := F3.fz 515
    have F4 := hidI (F3.s4 0)
    have D4 := hidI (dev_kept D3 (fr_set w3 f.b 515 (.int .i64 0)) (by simpa using fun e : x.d = f.b => hfd (by simp [e])) (by simp; intro e; have h1 := F3.at'; rw [← e] at h1; obtain ⟨D', ⟨es, clock, hb, _⟩, _⟩ := D3.safe; rw [hb] at h1; cases h1) (by simpa using fun e : bo = f.b => hfd (by simp [e])))
    have G4 := hidI ((g3.mono (M := [x.d, bo, f.b]) (by simp; omega)).trans ((fr_set w3 f.b 515 (.int .i64 0)).mono (by intro k _ hk; simp at hk; simp [hk])))
    clear D3 F3 f3 g3
    rw [show Dv.told (Dv.crash 0) = 0 from rfl]
    go_wp2_with fail
    go_ret
    exact ⟨rfl, D4.out, F4.out, G4.out⟩
end Go.Proofs.YthajipigppndgaaGreat

namespace Go.Proofs.YthajipigppndgaaGreat
open Go.RowKit Go.Maps

/-- A row of pointers to frames, as it is read. -/
def PtRow (w : World) (ad : Option Addr) (fs : List Fm) : Prop := ∀ j f, fs[j]? = some f → ∃ g, ad = some ⟨g, 0, none⟩ ∧ w.cell? ⟨g, j, none⟩ = some (.pointer (some ⟨f.b, 0, none⟩))
theorem PtRow.kept {w w' : World} {ad : Option Addr} {fs : List Fm} {L : List Nat} (h : PtRow w ad fs) (f : Fr L w w') (hL : ∀ a, ad = some a → a.block ∉ L) : PtRow w' ad fs := by
  intro j x hx
  obtain ⟨g, rfl, hc⟩ := h j x hx
  refine ⟨g, rfl, ?_⟩
  rw [← hc]
  have hb : w'.heap[g]? = w.heap[g]? := f.block g (block_lt_of_cell hc) (hL _ rfl)
  unfold World.cell?
  simp only [hb]
set_option maxHeartbeats 2000000 in
theorem cover_any {w : World} {pp : Nat} {x : Pf} (h : PBox' w pp x) {y : Lo} (hy : LoAt w y) (hp : x.p = y.p) (ad : Option Addr) (n c : Nat) (fs : List Fm) (hn : fs.length = n) (hm : n ≤ 1024) (hr : PtRow w ad fs) (hf : ∀ f ∈ fs, FAt w f ∧ f.lst ≤ (y.E : Int)) :
    Calls Tryz.prog 183 #[.pointer (some ⟨pp, 0, none⟩), .slice ad n c] w fun e w' => e = .returned (.int .i64 0) ∧ ∃ y', LoAt w' y' ∧ Forced y y' ∧ (∀ f ∈ fs, f.lst ≤ (y'.P : Int)) ∧ (∀ k ∈ y'.own, k ∈ y.own ∨ w.heap.size ≤ k) ∧ Fr [y.p, y.d, y.bs, y.bo] w w' := by
  have HB := hidI h
  have HY := hidI hy
  have HR := hidI hr
  have HFS := hidI hf
  have HN := hidI hn
  clear h hy hr hf hn
  go_enter Tryz.func183, Tryz.ntmps183
  go_wp2_with fail
  go_loopw [9] (fun s9 wr => ∃ (i : Nat), i ≤ n ∧ s9 = .int .i64 (i : Int) ∧ Hid (∀ j f, j < i → fs[j]? = some f → f.lst ≤ (y.P : Int)) ∧ Hid (Fr [] w wr)) (fun s9 _ => n - (intOf s9).toNat)
  case atStart => exact ⟨0, by omega, rfl, hidI (fun j f hj => by omega), hidI (Fr.refl _ _)⟩
  case round =>
    obtain ⟨i, hi, rfl, HI, HF⟩ := hrel
    have Y1 := hidI (HY.out.kept HF.out (by simp))
    have FF := HF.out
    by_cases hlt : i < n
    · have q1 : (i : Int) < (n : Int) := by omega
      have q0 : (0 : Int) ≤ (i : Int) := by omega
      obtain ⟨f, hf⟩ : ∃ f, fs[i]? = some f := ⟨_, List.getElem?_eq_getElem (by have := HN.out; omega)⟩
      obtain ⟨g, rfl, cj⟩ := (HR.out.kept HF.out (by simp)) i f hf
      have hfa := HFS.out f (List.mem_of_getElem? hf)
      have f5 := (hfa.1.kept HF.out (by simp)).c5
      have hfe := hfa.2
      have b1 := (HB.out.kept HF.out (by simp)).c1
      rw [hp] at b1
      have hwi : IntKind.i64.wrap ((i : Int) + 1) = (i : Int) + 1 := wrapI _ (by omega) (by omega)
      by_cases hs : f.lst ≤ (y.P : Int)
      · have q2 : ¬ ((y.P : Int) + 1) ≤ f.lst := by omega
        have q3 : f.lst < (y.P : Int) + 1 := by omega
        clear hfa
        go_wp2_with fail
        go_region_law ((go_simp; go_at_call 246; refine (lo_safe (Y1.out.kept (Fr.refl [] wr).drew (by simp))).mono ?_; rintro e w3 ⟨rfl, hw3⟩; have f53 : w3.cell? ⟨f.b, 516, none⟩ = some (.int .i64 f.lst) := (by rw [hw3]; exact f5)))
        all_goals
          subst hw3
          go_wp2_with fail
          refine ⟨⟨i + 1, by omega, by go_num, hidI (fun j g' hj hg' => ?_), hidI FF.drew⟩, by simp [intOf]; omega⟩
          rcases Nat.lt_succ_iff_lt_or_eq.1 hj with h1 | rfl
          · exact HI.out j g' h1 hg'
          · rw [hf] at hg'
            cases hg'
            exact hs
      · have q2 : ((y.P : Int) + 1) ≤ f.lst := by omega
        have q3 : ¬ f.lst < (y.P : Int) + 1 := by omega
        clear hfa
        go_wp2_with fail
        go_region_law ((go_simp; go_at_call 246; refine (lo_safe (Y1.out.kept (Fr.refl [] wr).drew (by simp))).mono ?_; rintro e w3 ⟨rfl, hw3⟩; have f53 : w3.cell? ⟨f.b, 516, none⟩ = some (.int .i64 f.lst) := (by rw [hw3]; exact f5)))
        all_goals
          subst hw3
          go_wp2_with fail
          refine (lo_force (Y1.out.kept (Fr.refl [] wr).drew (by simp))).mono ?_
          rintro e w4 ⟨rfl, y', L4, F4, hP, hown, f4⟩
          go_wp2_with fail
          go_ret
          refine ⟨rfl, y', L4, F4, fun f' hf' => ?_, fun k hk => (hown k hk).imp id (fun h1 => Nat.le_trans FF.size h1), (FF.mono (fun _ _ e => nomatch e)).trans ((Fr.refl _ wr).drew.trans f4)⟩
          rw [hP]
          exact (HFS.out f' hf').2
    · have q1 : ¬ (i : Int) < (n : Int) := by omega
      go_wp2_with fail
      go_ret
      refine ⟨rfl, y, Y1.out, Forced.refl y, fun f hf => ?_, fun k hk => Or.inl hk, FF.mono (fun _ _ e => nomatch e)⟩
      obtain ⟨j, hj⟩ := List.mem_iff_getElem?.1 hf
      exact HI.out j f (by have h1 := (List.getElem?_eq_some_iff.1 hj).1; have := HN.out; omega) hj
end Go.Proofs.YthajipigppndgaaGreat

namespace Go.Proofs.YthajipigppndgaaGreat
open Go.RowKit Go.Maps

structure Po where
  y : Lo
  pp : Nat
  rp : Nat
  mp : Nat
  start : Nat
  pages : Nat
  most : Nat
  sa : Option Addr
  sc : Nat
  hand : Nat
  fs : List Fm
def Po.pf (x : Po) : Pf := ⟨x.y.d, x.y.p, x.start, x.pages, x.most, x.rp, x.mp⟩
def ids (fs : List Fm) : List (Nat × Nat) := fs.map fun f => (f.pg, f.b)
/-- The map says just which frame each page is in. -/
structure TabOk (S : PTab) (l : List (Nat × Nat)) : Prop where
  has : ∀ q ∈ l, S (q.1 : Int) = some q.2
  only : ∀ k b, S k = some b → ∃ q ∈ l, (q.1 : Int) = k ∧ q.2 = b
/-- What stands on the device of a page. -/
def pgD (start : Nat) (y : Lo) (q : Nat) : List UInt8 := Dv.latest y.S y.O ((start : Int) + (q : Int))
/-- One frame is as it must be. -/
structure FOk (start pages : Nat) (y : Lo) (f : Fm) : Prop where
  pg : f.pg < pages
  h0 : 0 ≤ f.hd
  h1 : f.hd ≤ 1000000
  f0 : 0 ≤ f.fst
  l0 : 0 ≤ f.lst
  l1 : f.lst ≤ (y.E : Int)
  cl : f.fst = 0 → f.l = pgD start y f.pg
structure PoAt (w : World) (x : Po) : Prop where
  lo : LoAt w x.y
  box : PBox' w x.pp x.pf
  rn : Rn w x.rp x.sa x.sc x.hand x.fs
  mp : ∃ S, pMap w x.mp S ∧ TabOk S (ids x.fs)
  mne : x.mp ≠ x.y.bs ∧ x.mp ≠ x.y.bo
  nod : ((ids x.fs).map (·.1)).Nodup
  ok : ∀ f ∈ x.fs, FOk x.start x.pages x.y f
  hl : x.fs.length ≤ x.most
  m0 : 8 ≤ x.most
  m1 : x.most ≤ 1024
  hh : x.fs.length = x.most → x.hand < x.most
  hh0 : x.fs.length < x.most → x.hand = 0
  p1 : 1 ≤ x.pages
  area : (x.start : Int) + (x.pages : Int) ≤ x.y.nb
  dis : (x.start : Int) + (x.pages : Int) ≤ x.y.first ∨ x.y.first + x.y.count ≤ (x.start : Int)
  hlw : x.y.lw ≤ (x.start : Int)
/-- The blocks that are its own (but for the pool's, which never changes). -/
def Po.own (x : Po) : List Nat := x.mp :: (ownR x.rp x.sa x.fs ++ x.y.own)
theorem PoAt.d1 {w : World} {x : Po} (h : PoAt w x) : ∀ k ∈ ownR x.rp x.sa x.fs, k ∉ x.y.own := by
  intro k hk hy
  obtain ⟨cur, t, hc, ht⟩ := h.rn.types k hk
  have h2 := (h.lo.types k hy).2 cur t hc
  rcases ht with rfl | rfl | rfl <;> exact absurd h2 (by decide)
theorem PoAt.d2 {w : World} {x : Po} (h : PoAt w x) : x.mp ∉ ownR x.rp x.sa x.fs := by
  intro hk
  obtain ⟨S, hm, _⟩ := h.mp
  obtain ⟨cur, t, hc, _⟩ := h.rn.types _ hk
  exact hm.notcells _ _ hc
theorem PoAt.d3 {w : World} {x : Po} (h : PoAt w x) : x.mp ∉ x.y.own := by
  intro hk
  obtain ⟨S, hm, _⟩ := h.mp
  have hn := hm.notcells
  simp only [Lo.own, List.mem_append, List.mem_cons, List.not_mem_nil, or_false] at hk
  rcases hk with (e | e | e | e) | hk | hk
  · have h1 := h.lo.box
    unfold LBox at h1
    rw [← e] at h1
    exact hn _ _ h1
  · have h1 := h.lo.dev.cells
    rw [← e] at h1
    exact hn _ _ h1
  · exact h.mne.1 e
  · exact h.mne.2 e
  · obtain ⟨cur', hc⟩ := own0_type h.lo.bsA _ hk
    exact hn _ _ hc
  · obtain ⟨cur', hc⟩ := own0_type h.lo.lsA _ hk
    exact hn _ _ hc
theorem PoAt.d4 {w : World} {x : Po} (h : PoAt w x) : x.pp ∉ x.own := by
  intro hk
  simp only [Po.own, List.mem_cons, List.mem_append] at hk
  rcases hk with e | hk | hk
  · obtain ⟨S, hm, _⟩ := h.mp
    have h1 := h.box
    unfold PBox' at h1
    rw [e] at h1
    exact hm.notcells _ _ h1
  · obtain ⟨cur, t, hc, ht⟩ := h.rn.types _ hk
    have h1 := h.box
    unfold PBox' at h1
    rw [hc] at h1
    cases h1
    rcases ht with e | e | e <;> exact absurd e (by decide)
  · have h1 := (h.lo.types _ hk).2 _ _ h.box
    exact absurd h1 (by decide)
theorem PoAt.lt {w : World} {x : Po} (h : PoAt w x) : ∀ k ∈ x.pp :: x.own, k < w.heap.size := by
  intro k hk
  simp only [Po.own, List.mem_cons, List.mem_append] at hk
  rcases hk with rfl | rfl | hk | hk
  · exact (Array.getElem?_eq_some_iff.1 h.box).1
  · obtain ⟨S, hm, _⟩ := h.mp
    exact hm.lt
  · exact h.rn.lt k hk
  · exact (h.lo.types k hk).1
theorem PoAt.kept {w w' : World} {x : Po} {L : List Nat} (h : PoAt w x) (f : Fr L w w') (hL : ∀ k ∈ x.pp :: x.own, k ∉ L) : PoAt w' x :=
  { h with
    lo := h.lo.kept f (fun k hk => hL k (by simp only [Po.own, List.mem_cons, List.mem_append]; exact Or.inr (Or.inr (Or.inr hk))))
    box := h.box.kept f (hL _ List.mem_cons_self)
    rn := h.rn.kept f (fun k hk => hL k (by simp only [Po.own, List.mem_cons, List.mem_append]; exact Or.inr (Or.inr (Or.inl hk))))
    mp := by
      obtain ⟨S, hm, ht⟩ := h.mp
      exact ⟨S, hm.kept f (hL _ (by simp [Po.own])), ht⟩ }
/-- A step of a pool: what it is behind it, and which memory has changed. -/
structure Step (w w' : World) (x x' : Po) : Prop where
  at' : PoAt w' x'
  fr : Fr x.own w w'
  ow : ∀ k ∈ x'.own, k ∈ x.own ∨ w.heap.size ≤ k
theorem Step.trans {w w1 w2 : World} {x x1 x2 : Po} (h : Step w w1 x x1) (k : Step w1 w2 x1 x2) : Step w w2 x x2 :=
  ⟨k.at', h.fr.then k.fr (fun i hi hm => (h.ow i hm).resolve_right (by omega)), fun i hi => (k.ow i hi).elim (fun h1 => h.ow i h1) (fun h1 => Or.inr (Nat.le_trans h.fr.size h1))⟩
/-- What a log and its device have in common behind whatever the pool does. -/
structure Kin (y y' : Lo) : Prop where
  d : y'.d = y.d
  bs : y'.bs = y.bs
  bo : y'.bo = y.bo
  nb : y'.nb = y.nb
  p : y'.p = y.p
  first : y'.first = y.first
  count : y'.count = y.count
  T : y'.T = y.T
  A : y'.A = y.A
  E : y'.E = y.E
  P : y.P ≤ y'.P
  lw : y'.lw = y.lw
  ls : y'.ls = y.ls
  n2 : y'.n2 = y.n2
  lb : ∀ k, y.A ≤ k → y'.lb.drop (k - y'.F) = y.lb.drop (k - y.F)
  low : ∀ k : Int, k < y.lw → Dv.latest y'.S y'.O k = Dv.latest y.S y.O k
theorem Kin.refl (y : Lo) : Kin y y := ⟨rfl, rfl, rfl, rfl, rfl, rfl, rfl, rfl, rfl, rfl, Nat.le_refl _, rfl, rfl, rfl, fun _ _ => rfl, fun _ _ => rfl⟩
theorem Kin.trans {a b c : Lo} (h : Kin a b) (k : Kin b c) : Kin a c := ⟨k.d.trans h.d, k.bs.trans h.bs, k.bo.trans h.bo, k.nb.trans h.nb, k.p.trans h.p, k.first.trans h.first, k.count.trans h.count, k.T.trans h.T, k.A.trans h.A, k.E.trans h.E, Nat.le_trans h.P k.P, k.lw.trans h.lw, k.ls.trans h.ls, k.n2.trans h.n2, fun i hi => (k.lb i (by rw [h.A]; exact hi)).trans (h.lb i hi), fun i hi => (k.low i (by rw [h.lw]; exact hi)).trans (h.low i hi)⟩
theorem Forced.kin {y y' : Lo} (h : Forced y y') : Kin y y' := ⟨h.d, h.bs, h.bo, h.nb, h.p, h.first, h.count, h.T, h.A, h.E, h.P, h.lw, h.ls, h.n2, h.lb, h.low⟩
theorem Forced.pg {y y' : Lo} (h : Forced y y') {start pages : Nat} (hd : (start : Int) + (pages : Int) ≤ y.first ∨ y.first + y.count ≤ (start : Int)) {q : Nat} (hq : q < pages) : pgD start y' q = pgD start y q := h.out _ (by omega)
theorem FOk.turn {start pages : Nat} {y y' : Lo} {f : Fm} (h : FOk start pages y f) (k : Kin y y') (e : pgD start y' f.pg = pgD start y f.pg) : FOk start pages y' f :=
  { h with l1 := by rw [k.E]; exact h.l1, cl := fun h0 => by rw [e]; exact h.cl h0 }
theorem latest_put (S O : Dv.Tab) (k j : Int) (l : List UInt8) : Dv.latest S (Dv.Tab.put O k l) j = if j = k then l else Dv.latest S O j := by
  unfold Dv.latest Dv.Tab.put
  by_cases e : j = k <;> simp [e]
theorem latest_sync (S O : Dv.Tab) (k : Int) : Dv.latest (Dv.over S O) Dv.Tab.none k = Dv.latest S O k := by
  unfold Dv.latest Dv.over Dv.Tab.none Dv.Tab.get
  cases e : O k <;> simp [e]
theorem Kin.put {y y' : Lo} (h : Kin y y') {k : Int} {l : List UInt8} (hk : y.lw ≤ k) : Kin y { y' with O := Dv.Tab.put y'.O k l } := by
  refine { h with low := fun j hj => ?_ }
  show Dv.latest y'.S (Dv.Tab.put y'.O k l) j = _
  rw [latest_put, if_neg (by omega)]
  exact h.low j hj
theorem Kin.sync {y y' : Lo} (h : Kin y y') : Kin y { y' with S := Dv.over y'.S y'.O, O := Dv.Tab.none } := by
  refine { h with low := fun j hj => ?_ }
  show Dv.latest (Dv.over y'.S y'.O) Dv.Tab.none j = _
  rw [latest_sync]
  exact h.low j hj
end Go.Proofs.YthajipigppndgaaGreat

