/-
  A log in memory; the log's small functions.
-/
import Derived.Test.YtopaeomjndblkaaGreatQGet
namespace Go.Proofs.YtopaeomjndblkaaGreat
open Go.RowKit Go.Maps

/-- A log's fields. -/
structure Lg where
  dv : Value
  first : Int
  count : Int
  turn : Int
  oldest : Int
  safe : Int
  fin : Int
  by' : Value
  from' : Int
  ls : Value
def logV (x : Lg) : Array Value := #[x.dv, .int .i64 x.first, .int .i64 x.count, .int .i64 x.turn, .int .i64 x.oldest, .int .i64 x.safe, .int .i64 x.fin, x.by', .int .i64 x.from', x.ls]
def LBox (w : World) (p : Nat) (x : Lg) : Prop := w.heap[p]? = some (.cells (logV x) 223)
theorem LBox.kept {w w' : World} {p : Nat} {x : Lg} {L : List Nat} (h : LBox w p x) (f : Fr L w w') (hp : p ∉ L) : LBox w' p x := f.same hp h
theorem LBox.lt {w : World} {p : Nat} {x : Lg} (h : LBox w p x) : p < w.heap.size := (Array.getElem?_eq_some_iff.1 h).1
theorem LBox.fz {w : World} {p : Nat} {x : Lg} (h : LBox w p x) (j : Nat) : w.frozen? ⟨p, j, none⟩ = false := frozen_of_row w p j _ _ h
theorem LBox.c0 {w : World} {p : Nat} {x : Lg} (h : LBox w p x) : w.cell? ⟨p, 0, none⟩ = some (x.dv) := cell_of_row w p 0 _ _ _ h
theorem LBox.s0 {w : World} {p : Nat} {x : Lg} (h : LBox w p x) (v : Value) : LBox (w.setCell ⟨p, 0, none⟩ v) p { x with dv := v } := heap_setCell_same w p 0 _ _ _ h
theorem LBox.c1 {w : World} {p : Nat} {x : Lg} (h : LBox w p x) : w.cell? ⟨p, 1, none⟩ = some (.int .i64 x.first) := cell_of_row w p 1 _ _ _ h
theorem LBox.s1 {w : World} {p : Nat} {x : Lg} (h : LBox w p x) (v : Int) : LBox (w.setCell ⟨p, 1, none⟩ (.int .i64 v)) p { x with first := v } := heap_setCell_same w p 1 _ _ _ h
theorem LBox.c2 {w : World} {p : Nat} {x : Lg} (h : LBox w p x) : w.cell? ⟨p, 2, none⟩ = some (.int .i64 x.count) := cell_of_row w p 2 _ _ _ h
theorem LBox.s2 {w : World} {p : Nat} {x : Lg} (h : LBox w p x) (v : Int) : LBox (w.setCell ⟨p, 2, none⟩ (.int .i64 v)) p { x with count := v } := heap_setCell_same w p 2 _ _ _ h
theorem LBox.c3 {w : World} {p : Nat} {x : Lg} (h : LBox w p x) : w.cell? ⟨p, 3, none⟩ = some (.int .i64 x.turn) := cell_of_row w p 3 _ _ _ h
theorem LBox.s3 {w : World} {p : Nat} {x : Lg} (h : LBox w p x) (v : Int) : LBox (w.setCell ⟨p, 3, none⟩ (.int .i64 v)) p { x with turn := v } := heap_setCell_same w p 3 _ _ _ h
theorem LBox.c4 {w : World} {p : Nat} {x : Lg} (h : LBox w p x) : w.cell? ⟨p, 4, none⟩ = some (.int .i64 x.oldest) := cell_of_row w p 4 _ _ _ h
theorem LBox.s4 {w : World} {p : Nat} {x : Lg} (h : LBox w p x) (v : Int) : LBox (w.setCell ⟨p, 4, none⟩ (.int .i64 v)) p { x with oldest := v } := heap_setCell_same w p 4 _ _ _ h
theorem LBox.c5 {w : World} {p : Nat} {x : Lg} (h : LBox w p x) : w.cell? ⟨p, 5, none⟩ = some (.int .i64 x.safe) := cell_of_row w p 5 _ _ _ h
theorem LBox.s5 {w : World} {p : Nat} {x : Lg} (h : LBox w p x) (v : Int) : LBox (w.setCell ⟨p, 5, none⟩ (.int .i64 v)) p { x with safe := v } := heap_setCell_same w p 5 _ _ _ h
theorem LBox.c6 {w : World} {p : Nat} {x : Lg} (h : LBox w p x) : w.cell? ⟨p, 6, none⟩ = some (.int .i64 x.fin) := cell_of_row w p 6 _ _ _ h
theorem LBox.s6 {w : World} {p : Nat} {x : Lg} (h : LBox w p x) (v : Int) : LBox (w.setCell ⟨p, 6, none⟩ (.int .i64 v)) p { x with fin := v } := heap_setCell_same w p 6 _ _ _ h
theorem LBox.c7 {w : World} {p : Nat} {x : Lg} (h : LBox w p x) : w.cell? ⟨p, 7, none⟩ = some (x.by') := cell_of_row w p 7 _ _ _ h
theorem LBox.s7 {w : World} {p : Nat} {x : Lg} (h : LBox w p x) (v : Value) : LBox (w.setCell ⟨p, 7, none⟩ v) p { x with by' := v } := heap_setCell_same w p 7 _ _ _ h
theorem LBox.c8 {w : World} {p : Nat} {x : Lg} (h : LBox w p x) : w.cell? ⟨p, 8, none⟩ = some (.int .i64 x.from') := cell_of_row w p 8 _ _ _ h
theorem LBox.s8 {w : World} {p : Nat} {x : Lg} (h : LBox w p x) (v : Int) : LBox (w.setCell ⟨p, 8, none⟩ (.int .i64 v)) p { x with from' := v } := heap_setCell_same w p 8 _ _ _ h
theorem LBox.c9 {w : World} {p : Nat} {x : Lg} (h : LBox w p x) : w.cell? ⟨p, 9, none⟩ = some (x.ls) := cell_of_row w p 9 _ _ _ h
theorem LBox.s9 {w : World} {p : Nat} {x : Lg} (h : LBox w p x) (v : Value) : LBox (w.setCell ⟨p, 9, none⟩ v) p { x with ls := v } := heap_setCell_same w p 9 _ _ _ h

set_option maxHeartbeats 400000 in
theorem lmade_nil (w : World) : Calls Tryz.prog 177 #[.pointer none] w fun e w' => e = .returned (.bool false) ∧ w' = w := by
  go_enter Tryz.func177, Tryz.ntmps177
  go_wp2
  go_ret
  exact ⟨rfl, rfl⟩
set_option maxHeartbeats 400000 in
theorem lmade_zero (w : World) (p : Nat) (h : w.cell? ⟨p, 0, none⟩ = some (.pointer none)) : Calls Tryz.prog 177 #[.pointer (some ⟨p, 0, none⟩)] w fun e w' => e = .returned (.bool false) ∧ w' = w := by
  go_enter Tryz.func177, Tryz.ntmps177
  go_wp2
  go_ret
  exact ⟨rfl, rfl⟩
set_option maxHeartbeats 400000 in
theorem lmade_yes (w : World) (p d : Nat) (h : w.cell? ⟨p, 0, none⟩ = some (.pointer (some ⟨d, 0, none⟩))) : Calls Tryz.prog 177 #[.pointer (some ⟨p, 0, none⟩)] w fun e w' => e = .returned (.bool true) ∧ w' = w := by
  go_enter Tryz.func177, Tryz.ntmps177
  go_wp2
  go_ret
  exact ⟨rfl, rfl⟩

theorem wrapI (x : Int) (h0 : -9223372036854775808 ≤ x) (h1 : x < 9223372036854775808) : IntKind.i64.wrap x = x := by simp [IntKind.wrap, IntKind.signed, IntKind.bits]; omega

set_option maxHeartbeats 400000 in
theorem most_any (w : World) (p : Nat) (n : Int) (h : w.cell? ⟨p, 2, none⟩ = some (.int .i64 n)) (h0 : 4 ≤ n) (h1 : n ≤ 65536) : Calls Tryz.prog 191 #[.pointer (some ⟨p, 0, none⟩)] w fun e w' => e = .returned (.int .i64 (408 * (n - 1))) ∧ w' = w := by
  have e1 := wrapI (n - 1) (by omega) (by omega)
  have e2 := wrapI (408 * (n - 1)) (by omega) (by omega)
  go_enter Tryz.func191, Tryz.ntmps191
  go_wp2
  go_ret
  exact ⟨rfl, rfl⟩

set_option maxHeartbeats 400000 in
theorem inBlock_any (w : World) (q : Nat) (h : (q : Int) < 4611686018427387904) : Calls Tryz.prog 183 #[.int .i64 ((q : Int) + 1)] w fun e w' => e = .returned (.int .i64 ((q % 408 : Nat) : Int)) ∧ w' = w := by
  have e1 := wrapI ((q : Int) + 1 - 1) (by omega) (by omega)
  have e0 : (q : Int) + 1 - 1 = q := by omega
  go_enter Tryz.func183, Tryz.ntmps183
  go_wp2
  go_ret
  exact ⟨ret_int (by omega), rfl⟩
set_option maxHeartbeats 400000 in
theorem inSector_any (w : World) (q : Nat) (h : (q : Int) < 4611686018427387904) : Calls Tryz.prog 224 #[.int .i64 ((q : Int) + 1)] w fun e w' => e = .returned (.int .i64 ((q % 51 : Nat) : Int)) ∧ w' = w := by
  have e1 := wrapI ((q : Int) + 1 - 1) (by omega) (by omega)
  have e0 : (q : Int) + 1 - 1 = q := by omega
  go_enter Tryz.func224, Tryz.ntmps224
  go_wp2
  go_ret
  exact ⟨ret_int (by omega), rfl⟩

set_option maxHeartbeats 400000 in
theorem block_any (w : World) (d : Value) (first count : Int) (q : Nat) (h : (q : Int) < 4611686018427387904) (f0 : 0 ≤ first) (f1 : first ≤ 65536) (c0 : 4 ≤ count) (c1 : count ≤ 65536) :
    Calls Tryz.prog 185 #[.agg #[d, .int .i64 first, .int .i64 count], .int .i64 ((q : Int) + 1)] w fun e w' => e = .returned (.int .i64 (first + (q : Int) / 408 % count)) ∧ Fr [] w w' := by
  have e1 := wrapI ((q : Int) + 1 - 1) (by omega) (by omega)
  have e0 : (q : Int) + 1 - 1 = q := by omega
  have hm0 := Int.emod_nonneg ((q : Int) / 408) (b := count) (by omega)
  have hm1 := Int.emod_lt_of_pos ((q : Int) / 408) (b := count) (by omega)
  have e2 := wrapI (first + (q : Int) / 408 % count) (by omega) (by omega)
  have hc0 : ¬ count = 0 := by omega
  have hq0 : (0 : Int) ≤ (q : Int) / 408 := by omega
  go_enter Tryz.func185, Tryz.ntmps185
  go_wp2
  go_quiet (fail)
  go_wp2
  go_ret
  exact ⟨rfl, ((Fr.refl [] w).alloc _).drewN _⟩

theorem ret_sl {a : Option Addr} {m n c : Nat} (h : m = n) : Ending.returned (.slice a m c) = .returned (.slice a n c) := by rw [h]
set_option maxHeartbeats 400000 in
theorem sectorOf_any (w : World) (g c : Nat) (q : Nat) (h : (q : Int) < 4611686018427387904) (hc : 512 ≤ c) :
    Calls Tryz.prog 225 #[.slice (some ⟨g, 0, none⟩) 512 c, .int .i64 ((q : Int) + 1)] w fun e w' => e = .returned (.slice (some ⟨g, q / 51 % 8 * 64, none⟩) 64 (c - q / 51 % 8 * 64)) ∧ w' = w := by
  have e1 := wrapI ((q : Int) + 1 - 1) (by omega) (by omega)
  have e0 : (q : Int) + 1 - 1 = q := by omega
  obtain ⟨k, HK⟩ : ∃ k, Hid (q / 51 % 8 = k) := ⟨_, rfl⟩
  have hk : k < 8 := by have h := HK.out; omega
  have ek : (q : Int) / 51 % 8 = (k : Int) := by have h := HK.out; omega
  rw [HK.out]
  have e2 := wrapI ((k : Int) * 64) (by omega) (by omega)
  have e3 := wrapI ((k : Int) * 64 + 64) (by omega) (by omega)
  have g1 : (0 : Int) ≤ (k : Int) * 64 := by omega
  have g2 : (k : Int) * 64 ≤ (k : Int) * 64 + 64 := by omega
  have g3 : (k : Int) * 64 + 64 ≤ (c : Int) := by omega
  have hne : ¬ c = ((k : Int) * 64).toNat := by omega
  go_enter Tryz.func225, Tryz.ntmps225
  go_wp2
  go_ret
  exact ⟨ret_sl (by omega), rfl⟩

/-- What a sector's stamp says. -/
def stampP (l : List UInt8) : Int := toI (valL (l.take 8))
def stampT (l : List UInt8) : Int := (valL ((l.drop 8).take 4) : Nat)
def stampU (l : List UInt8) : Int := (valL ((l.drop 12).take 1) : Nat)

theorem sizeSt : (Tryz.prog.info? 265).map (·.size) = some 3 := by kernel_rfl
def TBox (w : World) (b : Nat) (x y z : Int) : Prop := w.heap[b]? = some (.cells #[.int .i64 x, .int .i64 y, .int .i64 z] 265)
theorem TBox.kept {w w' : World} {b : Nat} {x y z : Int} {L : List Nat} (h : TBox w b x y z) (f : Fr L w w') (hb : b ∉ L) : TBox w' b x y z := f.same hb h
theorem TBox.c0 {w : World} {b : Nat} {x y z : Int} (h : TBox w b x y z) : w.cell? ⟨b, 0, none⟩ = some (.int .i64 x) := cell_of_row w b 0 _ _ _ h
theorem TBox.c1 {w : World} {b : Nat} {x y z : Int} (h : TBox w b x y z) : w.cell? ⟨b, 1, none⟩ = some (.int .i64 y) := cell_of_row w b 1 _ _ _ h
theorem TBox.c2 {w : World} {b : Nat} {x y z : Int} (h : TBox w b x y z) : w.cell? ⟨b, 2, none⟩ = some (.int .i64 z) := cell_of_row w b 2 _ _ _ h
theorem resT {fn : Func} {p : Tmp} (h : fn.results = #[.cell p 265]) (tmps : Array Value) (w : World) (b : Nat) (x y z : Int) (hp : tmps.getD p undef = .pointer (some ⟨b, 0, none⟩)) (hg : TBox w b x y z) :
    (results fn tmps).run Tryz.prog w = .ok (.agg #[.int .i64 x, .int .i64 y, .int .i64 z]) w := by
  have hl := run_loadVar_row w b 265 265 #[.int .i64 x, .int .i64 y, .int .i64 z] (0, 0) _ hg Tryz.underlying265 rfl (by rw [sizeSt]; rfl)
  have hp2 : tmps[p]?.getD undef = .pointer (some ⟨b, 0, none⟩) := by simpa using hp
  simp only [results, h]
  simp [hp2, asAddr, hl]
section
variable {ops : Array Oper} {rest : List Oper} {o : Oper} {a : Act} {w : World} {Q : Exit → Act → World → Prop}
theorem wp_storeT (hgd : o.guard = none) (x y : Operand) (ho : o.op = .store 265 x y) (b : Nat) (p q r p' q' r' : Int) (hx : a.eval x = .pointer (some ⟨b, 0, none⟩)) (hy : a.eval y = .agg #[.int .i64 p', .int .i64 q', .int .i64 r']) (hg : TBox w b p q r)
    (h : ∀ w', TBox w' b p' q' r' → Fr [b] w w' → wpList Tryz.prog ops Q rest (a.put o.dst undef) w') : wpList Tryz.prog ops Q (o :: rest) a w :=
  wpList_store_row hgd 265 x y ho b #[.int .i64 p', .int .i64 q', .int .i64 r'] hx hy 265 #[.int .i64 p, .int .i64 q, .int .i64 r] hg sizeSt rfl (by simp; exact ⟨rfl, rfl, rfl⟩)
    (h _ (setRow_heap w b _ _ _ _ hg) ⟨rfl, rfl, rfl, by simp, fun i _ hn => setRow_other w b i _ (fun e => hn (by simp [e]))⟩)
end

set_option maxHeartbeats 400000 in
set_option maxRecDepth 100000 in
theorem readStamp_any (w : World) (g o n c : Nat) (l : List UInt8) (hl : l.length = n) (h13 : 13 ≤ n) (hc : n ≤ c) (hb : BytesAt w (some ⟨g, o, none⟩) l) :
    Calls Tryz.prog 226 #[.slice (some ⟨g, o, none⟩) n c] w fun e w' => e = .returned (.agg #[.int .i64 (stampP l), .int .i64 (stampT l), .int .i64 (stampU l)]) ∧ Fr [] w w' := by
  have HL : Hid (l.length = n) := hl
  have hgl : g < w.heap.size := by
    obtain ⟨b, off, e, hq⟩ := hb.at 0 (by omega)
    cases e
    exact block_lt_of_cell hq
  clear hl
  have hbx : SBox ((w.alloc (.cells #[.slice (some ⟨g, o, none⟩) n c] 37)).alloc (.cells #[.int .i64 0, .int .i64 0, .int .i64 0] 265)) w.heap.size (.slice (some ⟨g, o, none⟩) n c) := heap_alloc2_old w _ _
  have htx : TBox ((w.alloc (.cells #[.slice (some ⟨g, o, none⟩) n c] 37)).alloc (.cells #[.int .i64 0, .int .i64 0, .int .i64 0] 265)) (w.heap.size + 1) 0 0 0 := heap_alloc2_new w _ _
  have f1 : Fr [] w ((w.alloc (.cells #[.slice (some ⟨g, o, none⟩) n c] 37)).alloc (.cells #[.int .i64 0, .int .i64 0, .int .i64 0] 265)) := kept_two _ _
  go_enter Tryz.func226, Tryz.ntmps226
  go_wp2_with fail
  generalize ((w.alloc (.cells #[.slice (some ⟨g, o, none⟩) n c] 37)).alloc (.cells #[.int .i64 0, .int .i64 0, .int .i64 0] 265)) = w1 at hbx htx f1 ⊢
  obtain ⟨B, HB⟩ : ∃ B, Hid (w.heap.size = B) := ⟨_, rfl⟩
  rw [HB.out] at hbx htx hgl ⊢
  have hgb : g ≠ B := by omega
  have b1 := hb.kept f1 (by simp)
  refine (take64_any _ B g o n c l hbx HL.out (by omega) hc b1 hgb).mono ?_
  rintro e w2 ⟨rfl, o2, hbx2, b2, f2⟩
  have t2 := htx.kept f2 (by simp)
  have F2 := f1.then f2 (fun i hi hm => by simp at hm; have := HB.out; omega)
  obtain ⟨LS, HLS⟩ : ∃ LS, Hid (valL (l.take 8) = LS) := ⟨_, rfl⟩
  rw [HLS.out]
  clear hbx htx f1 f2 b1
  go_wp2_with fail
  refine (take32_any _ B g o2 (n - 8) (c - 8) (l.drop 8) hbx2 (by rw [List.length_drop, HL.out]) (by omega) (by omega) b2 hgb).mono ?_
  rintro e w3 ⟨rfl, o3, hbx3, b3, f3⟩
  have t3 := t2.kept f3 (by simp)
  have F3 := F2.then f3 (fun i hi hm => by simp at hm; have := HB.out; omega)
  obtain ⟨TU, HTU⟩ : ∃ TU, Hid (valL ((l.drop 8).take 4) = TU) := ⟨_, rfl⟩
  rw [HTU.out]
  have hTU : (TU : Int) < 4294967296 := by
    have h := valL_lt ((l.drop 8).take 4)
    rw [List.length_take, List.length_drop, HL.out, Nat.min_eq_left (by omega), HTU.out] at h
    simp at h
    omega
  clear hbx2 t2 F2 f3 b2
  go_wp2_with fail
  refine (take8_any _ B g o3 (n - 8 - 4) (c - 8 - 4) ((l.drop 8).drop 4) hbx3 (by rw [List.length_drop, List.length_drop, HL.out]) (by omega) (by omega) b3 hgb).mono ?_
  rintro e w4 ⟨rfl, o4, hbx4, b4, f4⟩
  have t4 := t3.kept f4 (by simp)
  have F4 := F3.then f4 (fun i hi hm => by simp at hm; have := HB.out; omega)
  rw [List.drop_drop]
  obtain ⟨US, HUS⟩ : ∃ US, Hid (valL ((l.drop 12).take 1) = US) := ⟨_, rfl⟩
  rw [HUS.out]
  have hUS : (US : Int) < 256 := by
    have h := valL_lt ((l.drop 12).take 1)
    rw [List.length_take, List.length_drop, HL.out, Nat.min_eq_left (by omega), HUS.out] at h
    simp at h
    omega
  clear hbx3 t3 F3 f4 b3
  go_wp2_with (refine wp_storeT rfl _ _ rfl (B + 1) _ _ _ (wrap64 (LS : Int)) TU US rfl rfl t4 ?_; intro w5 t5 f5)
  refine bodyPost_ret (resT rfl _ _ (B + 1) _ _ _ rfl t5) rfl ⟨?_, F4.then f5 (fun i hi hm => by simp at hm; have := HB.out; omega)⟩
  unfold stampP stampT stampU
  rw [HLS.out, HTU.out, HUS.out]
  rfl

end Go.Proofs.YtopaeomjndblkaaGreat
