/-
  Which master stands in a block of given bytes.
-/
import Derived.Test.YtopaeomjndblkaaGreatY10Z
import Derived.Test.YtopaeomjndblkaaGreatY12Z
import Derived.Lib.LazyBuf
import Derived.Test.YtopaeomjndblkaaGreatY06Z
namespace Go.Proofs.YtopaeomjndblkaaGreat
open Go.RowKit Go.Maps

theorem fr_dv {L : List Nat} {a b : World} (h : Dv.Fr L a b) : Fr L a b := ⟨h.os, h.tape, h.output, h.size, h.block⟩
theorem dv_fr {L : List Nat} {a b : World} (h : Fr L a b) : Dv.Fr L a b := ⟨h.os, h.tape, h.output, h.size, h.block⟩
theorem dev_kept {w w' : World} {p bs bo : Nat} {n a : Int} {dn : Bool} {S O : Dv.Tab} (h : Dv.Dev w p bs bo n a dn S O) {L : List Nat} (k : Fr L w w') (hp : p ∉ L) (hs : bs ∉ L) (ho : bo ∉ L) : Dv.Dev w' p bs bo n a dn S O := h.kept (dv_fr k) hp hs ho
theorem latest_len {w : World} {p bs bo : Nat} {n a : Int} {dn : Bool} {S O : Dv.Tab} (h : Dv.Dev w p bs bo n a dn S O) (k : Int) : (Dv.latest S O k).length = 512 := by
  unfold Dv.latest
  cases e : O k with
  | none => exact h.safe.get_length k
  | some l => exact h.opn.len e
theorem dread {w : World} {p bs bo : Nat} {n a : Int} {S O : Dv.Tab} (h : Dv.Dev w p bs bo n a false S O) (k : Int) (h0 : 0 ≤ k) (h1 : k < n) :
    Calls Tryz.prog 83 #[.pointer (some ⟨p, 0, none⟩), .int .i64 k] w fun e w' => ∃ g, e = .returned (.tuple #[.slice (some ⟨g, 0, none⟩) 512 512, .int .i64 0]) ∧ Blk w' g (Dv.latest S O k) ∧ w.heap.size ≤ g ∧ Fr [] w w' := by
  refine (Dv.read_dev h k h0 h1).mono ?_
  rintro e w' ⟨g, rfl, b, hg, f⟩
  exact ⟨g, rfl, b, hg, fr_dv f⟩
/-- An area in a box. -/
def ABox (w : World) (b d : Nat) (x y : Int) : Prop := w.heap[b]? = some (.cells #[.pointer (some ⟨d, 0, none⟩), .int .i64 x, .int .i64 y] 220)
theorem ABox.cells {w w' : World} {b d : Nat} {x y : Int} (h : ABox w b d x y) (f : Fr [] w w') : w'.cell? ⟨b, 0, none⟩ = some (.pointer (some ⟨d, 0, none⟩)) ∧ w'.cell? ⟨b, 1, none⟩ = some (.int .i64 x) ∧ w'.cell? ⟨b, 2, none⟩ = some (.int .i64 y) := by
  have h' : ABox w' b d x y := f.same (by simp) h
  exact ⟨cell_of_row w' b 0 _ _ _ h', cell_of_row w' b 1 _ _ _ h', cell_of_row w' b 2 _ _ _ h'⟩

set_option maxHeartbeats 400000 in
set_option maxRecDepth 100000 in
theorem stand_no (w : World) (d bs bo : Nat) (nb a : Int) (S O : Dv.Tab) (hd : Dv.Dev w d bs bo nb a false S O) (first count T : Int) (f0 : 0 ≤ first) (f1 : first < nb) (f2 : first ≤ 65536) (c0 : 4 ≤ count) (c1 : count ≤ 65536) (hP : stampP ((Dv.latest S O first).take 64) ≠ 1) :
    Calls Tryz.prog 174 #[.agg #[.pointer (some ⟨d, 0, none⟩), .int .i64 first, .int .i64 count], .int .i64 1, .int .i64 T] w fun e w' => e = .returned (.tuple #[.slice none 0 0, .int .i64 0]) ∧ Fr [] w w' := by
  have ab : ABox (w.alloc (.cells #[.pointer (some ⟨d, 0, none⟩), .int .i64 first, .int .i64 count] 220)) w.heap.size d first count := heap_alloc_new w _
  have fa : Fr [] w (w.alloc (.cells #[.pointer (some ⟨d, 0, none⟩), .int .i64 first, .int .i64 count] 220)) := (Fr.refl [] w).alloc _
  go_enter Tryz.func174, Tryz.ntmps174
  go_wp2_with (go_at_call 224; refine (inSector_any _ 0 (by omega)).mono ?_; rintro e w' ⟨rfl, hw⟩; subst hw)
  generalize w.alloc (.cells #[.pointer (some ⟨d, 0, none⟩), .int .i64 first, .int .i64 count] 220) = w1 at ab fa ⊢
  go_loopw [8, 9, 10, 11, 12] (fun s8 s9 s10 s11 s12 wr => s8 = .slice none 0 0 ∧ s9 = .slice none 0 0 ∧ s10 = .int .i64 0 ∧ s11 = .int .i64 1 ∧ s12 = .int .i64 1 ∧ wr = w1) (fun _ _ _ _ _ _ => 0)
  case atStart => exact ⟨rfl, rfl, rfl, rfl, rfl, rfl⟩
  case round =>
    obtain ⟨rfl, rfl, rfl, rfl, rfl, hwr⟩ := hrel
    subst hwr
    have heq : ∀ w : World, (binOp .eql 37 (.slice none 0 0) (.slice none 0 0)).run Tryz.prog w = .ok (.bool true) w := fun w => Lib.run_eql_slice_nil w _ _ none 0 0 0 0 Tryz.underlying37
    go_wp2
    clear heq
    obtain ⟨B, HB⟩ : ∃ B, Hid (w.heap.size = B) := ⟨_, rfl⟩
    rw [HB.out] at ab ⊢
    have hd1 := dev_kept hd fa (by simp) (by simp) (by simp)
    go_cut [13, 14] from 13 (fun s13 s14 wx => ∃ g, s13 = .slice (some ⟨g, 0, none⟩) 512 512 ∧ s14 = .int .i64 0 ∧ Blk wx g (Dv.latest S O first) ∧ Fr [] wr wx)
    case first => as_aux_lemma =>
      obtain ⟨W0, HW0⟩ : ∃ W0, Hid (W0 = wr) := ⟨_, rfl⟩
      have gg : Fr [] W0 wr.drew := (by rw [HW0.out]; exact (Fr.refl _ _).drew)
      rw [← HW0.out] at ab hd1
      have SK : Hid (∀ w', Fr [] W0 w' → w'.cell? ⟨B, 0, none⟩ = some (.pointer (some ⟨d, 0, none⟩)) ∧ w'.cell? ⟨B, 1, none⟩ = some (.int .i64 first) ∧ w'.cell? ⟨B, 2, none⟩ = some (.int .i64 count)) := hidI (fun w' f => ab.cells f)
      have SD : Hid (∀ w', Fr [] W0 w' → Dv.Dev w' d bs bo nb a false S O) := hidI (fun w' f => dev_kept hd1 f (by simp) (by simp) (by simp))
      have k0 := SK.out _ gg
      go_region_held3 (fun w' => w'.cell? ⟨B, 0, none⟩ = some (.pointer (some ⟨d, 0, none⟩)) ∧ w'.cell? ⟨B, 1, none⟩ = some (.int .i64 first) ∧ w'.cell? ⟨B, 2, none⟩ = some (.int .i64 count)) (first | exact SK.out _ gg)
        ((first
          | (go_at_call 185; refine (block_any _ _ first count 0 (by omega) f0 f2 c0 c1).mono ?_; rintro e w7 ⟨rfl, f7⟩; replace gg := gg.trans f7)
          | (go_at_call 83; refine (dread (SD.out _ gg) first f0 f1).mono ?_; rintro e w8 ⟨g8, rfl, b8, hg8, f8⟩; replace gg := gg.trans f8)))
      all_goals go_wp2
      all_goals go_meet
      all_goals (have HW := HW0.out; subst HW)
      all_goals exact ⟨g8, rfl, rfl, b8, gg⟩
    obtain ⟨g, rfl, rfl, bx, fx⟩ := hcut
    have hL := latest_len hd first
    generalize Dv.latest S O first = L at bx hL hP
    have hl64 : (L.take 64).length = 64 := by rw [List.length_take, hL]; rfl
    have b64 : BytesAt wc (some ⟨g, 0, none⟩) (L.take 64) := by simpa using bx.bytes.sub 0 64
    have hs : Calls Tryz.prog 225 #[.slice (some ⟨g, 0, none⟩) 512 512, .int .i64 1] wc fun e w' => e = .returned (.slice (some ⟨g, 0, none⟩) 64 512) ∧ w' = wc := sectorOf_any wc g 512 0 (by omega) (by omega)
    have hr := readStamp_any wc g 0 64 512 (L.take 64) hl64 (by omega) (by omega) b64
    generalize L.take 64 = L64 at hl64 b64 hr hP
    have q1 : (stampP L64 != 1) = true := by rw [bne_iff_ne]; exact hP
    generalize stampP L64 = SP at hr q1
    generalize stampT L64 = ST at hr
    generalize stampU L64 = SU at hr
    clear hP
    go_wp2_with (first
      | (go_at_call 225; refine hs.mono ?_; rintro e wc ⟨rfl, rfl⟩)
      | (go_at_call 226; refine hr.mono ?_; rintro e w9 ⟨rfl, f9⟩))
    go_ret2
    exact ⟨rfl, ((fa.trans fx).trans f9).alloc _⟩

end Go.Proofs.YtopaeomjndblkaaGreat

namespace Go.Proofs.YtopaeomjndblkaaGreat
open Go.RowKit Go.Maps

theorem sizeM : (Tryz.prog.info? 72).map (·.size) = some 3 := by kernel_rfl
def MBox (w : World) (b : Nat) (m : Mst) : Prop := w.heap[b]? = some (.cells #[.int .i64 m.seq, .int .i64 m.turn, .int .i64 m.old] 72)
theorem bytesEq_same (w : World) (a1 a2 : Option Addr) (n c1 c2 : Nat) (l : List UInt8) (h1 : l.length = n) (hn : 0 < n) (hb1 : BytesAt w a1 l) (hb2 : BytesAt w a2 l) : Calls Tryz.prog 206 #[.slice a1 n c1, .slice a2 n c2] w fun e w' => e = .returned (.bool true) ∧ w' = w := by
  have r1 := run_conv (w := w) l a1 n c1 h1 hb1 (fun e => absurd e (by omega))
  have r2 := run_conv (w := w) l a2 n c2 h1 hb2 (fun e => absurd e (by omega))
  have e3 : ((mkS l).toList == (mkS l).toList) = true := beq_self_eq_true _
  go_enter Tryz.func206, Tryz.ntmps206
  go_wp2
  go_ret
  exact ⟨rfl, rfl⟩
/-- The numbers that a block says. -/
def numL (l : List UInt8) (j : Nat) : Int := (ofBe ((l.drop (4 + 8 * j)).take 8) : Int) - 9223372036854775808
theorem getNum (w : World) (g C : Nat) (l : List UInt8) (j : Nat) (hj : j ≤ 2) (hl : l.length = 512) (hb : BytesAt w (some ⟨g, 4 + 8 * j, none⟩) (l.drop (4 + 8 * j))) :
    Calls Tryz.prog 205 #[.slice (some ⟨g, 4 + 8 * j, none⟩) (508 - 8 * j) C] w fun e w' => e = .returned (.tuple #[.int .i64 (numL l j), .int .i64 8, .bool true]) ∧ w' = w :=
  getInt_any w (some ⟨g, 4 + 8 * j, none⟩) (508 - 8 * j) C (l.drop (4 + 8 * j)) (by rw [List.length_drop, hl]; omega) hb (by omega) (by omega)
theorem resM {fn : Func} {p : Tmp} (h : fn.results = #[.cell p 72]) (tmps : Array Value) (w : World) (b : Nat) (m : Mst) (hp : tmps.getD p undef = .pointer (some ⟨b, 0, none⟩)) (hg : MBox w b m) :
    (results fn tmps).run Tryz.prog w = .ok (.agg (mV m)) w := by
  have hl := run_loadVar_row w b 72 72 #[.int .i64 m.seq, .int .i64 m.turn, .int .i64 m.old] (0, 0) _ hg Tryz.underlying72 rfl (by rw [sizeM]; rfl)
  have hp2 : tmps[p]?.getD undef = .pointer (some ⟨b, 0, none⟩) := by simpa using hp
  simp only [results, h]
  simp [hp2, asAddr, hl]
  rfl
section
variable {ops : Array Oper} {rest : List Oper} {o : Oper} {a : Act} {w : World} {Q : Exit → Act → World → Prop}
theorem wp_storeM (hgd : o.guard = none) (x y : Operand) (ho : o.op = .store 72 x y) (b : Nat) (r r' : Mst) (hx : a.eval x = .pointer (some ⟨b, 0, none⟩)) (hy : a.eval y = .agg #[.int .i64 r'.seq, .int .i64 r'.turn, .int .i64 r'.old]) (hg : MBox w b r)
    (h : ∀ w', MBox w' b r' → Fr [b] w w' → wpList Tryz.prog ops Q rest (a.put o.dst undef) w') : wpList Tryz.prog ops Q (o :: rest) a w :=
  wpList_store_row hgd 72 x y ho b #[.int .i64 r'.seq, .int .i64 r'.turn, .int .i64 r'.old] hx hy 72 _ hg sizeM rfl (by simp; exact ⟨rfl, rfl, rfl⟩)
    (h _ (setRow_heap w b _ _ _ _ hg) ⟨rfl, rfl, rfl, by simp, fun i _ hn => setRow_other w b i _ (fun e => hn (by simp [e]))⟩)
end
end Go.Proofs.YtopaeomjndblkaaGreat

namespace Go.Proofs.YtopaeomjndblkaaGreat
open Go.RowKit Go.Maps
def arr3 (p q r : Int) : Nat → Array Value
  | 0 => #[.int .i64 0, .int .i64 0, .int .i64 0]
  | 1 => #[.int .i64 p, .int .i64 0, .int .i64 0]
  | 2 => #[.int .i64 p, .int .i64 q, .int .i64 0]
  | _ => #[.int .i64 p, .int .i64 q, .int .i64 r]
theorem mayBe_no (w : World) (p q r : Int) (hp : p < 1) : Calls Tryz.prog 127 #[.agg #[.int .i64 p, .int .i64 q, .int .i64 r]] w fun e w' => e = .returned (.bool false) ∧ Fr [] w w' := by
  have n0 : ¬ (1 : Int) ≤ p := by omega
  go_enter Tryz.func127, Tryz.ntmps127
  go_wp2
  go_ret
  exact ⟨rfl, (Fr.refl [] w).alloc _⟩
set_option maxHeartbeats 2000000 in
set_option maxRecDepth 100000 in
theorem stand_no2 (w : World) (g c : Nat) (l : List UInt8) (hl : l.length = 512) (hb : Blk w g l) (hc : 512 ≤ c) (k : Int) (p q r : Int) (hp : numL l 0 = p) (hq : numL l 1 = q) (hr : numL l 2 = r) (hz0 : p = -9223372036854775808) :
    Calls Tryz.prog 121 #[.slice (some ⟨g, 0, none⟩) 512 c, .int .i64 k] w fun e w' => e = .returned (.agg (mV ⟨0, 0, 0⟩)) ∧ Fr [] w w' := by
  have HL := hidI hl
  have f1 : Fr [] w (w.alloc (.cells #[.int .i64 0, .int .i64 0, .int .i64 0] 72)) := (Fr.refl [] w).alloc _
  have hM := heap_alloc_new w (.cells #[.int .i64 0, .int .i64 0, .int .i64 0] 72)
  have hs1 : (w.alloc (.cells #[.int .i64 0, .int .i64 0, .int .i64 0] 72)).heap.size = w.heap.size + 1 := by simp
  obtain ⟨w1, hw1⟩ : ∃ w1, w.alloc (.cells #[.int .i64 0, .int .i64 0, .int .i64 0] 72) = w1 := ⟨_, rfl⟩
  rw [hw1] at f1 hM hs1
  have f2 : Fr [] w1 (w1.alloc (.cells #[.int .i64 0, .int .i64 0, .int .i64 0] 244)) := (Fr.refl [] w1).alloc _
  have hA := heap_alloc_new w1 (.cells #[.int .i64 0, .int .i64 0, .int .i64 0] 244)
  obtain ⟨w2, hw2⟩ : ∃ w2, w1.alloc (.cells #[.int .i64 0, .int .i64 0, .int .i64 0] 244) = w2 := ⟨_, rfl⟩
  rw [hw2] at f2 hA
  rw [hs1] at hA
  have hM2 := f2.same (by simp) hM
  have hgs : g < w.heap.size := (Array.getElem?_eq_some_iff.1 hb).1
  have HB : Hid (∀ wr, Fr [w.heap.size + 1] w2 wr → ∀ j, BytesAt wr (some ⟨g, 4 + 8 * j, none⟩) (l.drop (4 + 8 * j))) := hidI (fun wr f j => by
    have h1 : Blk wr g l := f.same (by simp; omega) ((f1.trans f2).same (by simp) hb)
    have h2 := h1.bytes.sub (4 + 8 * j) 512
    rw [Nat.zero_add, List.take_of_length_le (by rw [List.length_drop]; omega)] at h2
    exact h2)
  have HZ := hidI hz0
  clear hz0
  have HP := hidI hp
  have HQ := hidI hq
  have HRR := hidI hr
  have cc : (512 : Int) ≤ (c : Int) := by omega
  have c4 : ¬ c = 4 := by omega
  clear hl hp hq hr
  go_enter Tryz.func121, Tryz.ntmps121
  go_wp2_with fail
  go_loopw [6, 14] (fun s6 s14 wr => ∃ j : Nat, ∃ C, s14 = .int .i64 (j : Int) ∧ j ≤ 3 ∧ s6 = .slice (some ⟨g, 4 + 8 * j, none⟩) (508 - 8 * j) C ∧ Hid (C = c - (4 + 8 * j)) ∧ Hid (wr.heap[w.heap.size + 1]? = some (.cells (arr3 p q r j) 244) ∧ Fr [w.heap.size + 1] w2 wr)) (fun _ i _ => 3 - (intOf i).toNat)
  case atStart => exact ⟨0, c - 4, rfl, by omega, rfl, hidI rfl, hidI ⟨hA, Fr.refl _ _⟩⟩
  case round =>
    obtain ⟨j, C, rfl, hj, rfl, hC, HR⟩ := hrel
    by_cases hlt : j < 3
    · have q8 : (8 : Int) ≤ (C : Int) := by have := hC.out; omega
      have q9 : ¬ C = 8 := by have := hC.out; omega
      rcases (by omega : j = 0 ∨ j = 1 ∨ j = 2) with rfl | rfl | rfl
      · have H0 : wr.heap[w.heap.size + 1]? = some (.cells #[.int .i64 0, .int .i64 0, .int .i64 0] 244) := HR.out.1
        have a0 := cell_of_row wr (w.heap.size + 1) 0 _ _ _ H0
        have z0 := frozen_of_row wr (w.heap.size + 1) 0 _ _ H0
        have A2 : (wr.setCell ⟨w.heap.size + 1, 0, none⟩ (.int .i64 p)).heap[w.heap.size + 1]? = some (.cells #[.int .i64 p, .int .i64 0, .int .i64 0] 244) := by
          rw [heap_setCell_same wr _ 0 _ _ _ H0]
          rfl
        have F2 := HR.out.2.trans (fr_set wr (w.heap.size + 1) 0 (.int .i64 p))
        have HG : Hid (Calls Tryz.prog 205 #[.slice (some ⟨g, 4, none⟩) 508 C] wr fun e w' => e = .returned (.tuple #[.int .i64 p, .int .i64 8, .bool true]) ∧ w' = wr) := hidI (by
          have h1 := getNum wr g C l 0 (by omega) HL.out (HB.out wr HR.out.2 0)
          rw [HP.out] at h1
          exact h1)
        have HX := hidI (⟨A2, F2⟩ : _ ∧ _)
        clear A2 F2 H0
        go_wp2_with (go_at_call 205; refine HG.out.mono ?_; rintro e w5 ⟨rfl, hz⟩; rw [hz]; clear hz)
        exact ⟨⟨1, C - 8, rfl, by omega, rfl, hidI (by have := hC.out; omega), HX⟩, by simp [intOf]⟩
      · have H0 : wr.heap[w.heap.size + 1]? = some (.cells #[.int .i64 p, .int .i64 0, .int .i64 0] 244) := HR.out.1
        have a0 := cell_of_row wr (w.heap.size + 1) 1 _ _ _ H0
        have z0 := frozen_of_row wr (w.heap.size + 1) 1 _ _ H0
        have A2 : (wr.setCell ⟨w.heap.size + 1, 1, none⟩ (.int .i64 q)).heap[w.heap.size + 1]? = some (.cells #[.int .i64 p, .int .i64 q, .int .i64 0] 244) := by
          rw [heap_setCell_same wr _ 1 _ _ _ H0]
          rfl
        have F2 := HR.out.2.trans (fr_set wr (w.heap.size + 1) 1 (.int .i64 q))
        have HG : Hid (Calls Tryz.prog 205 #[.slice (some ⟨g, 12, none⟩) 500 C] wr fun e w' => e = .returned (.tuple #[.int .i64 q, .int .i64 8, .bool true]) ∧ w' = wr) := hidI (by
          have h1 := getNum wr g C l 1 (by omega) HL.out (HB.out wr HR.out.2 1)
          rw [HQ.out] at h1
          exact h1)
        have HX := hidI (⟨A2, F2⟩ : _ ∧ _)
        clear A2 F2 H0
        go_wp2_with (go_at_call 205; refine HG.out.mono ?_; rintro e w5 ⟨rfl, hz⟩; rw [hz]; clear hz)
        exact ⟨⟨2, C - 8, rfl, by omega, rfl, hidI (by have := hC.out; omega), HX⟩, by simp [intOf]⟩
      · have H0 : wr.heap[w.heap.size + 1]? = some (.cells #[.int .i64 p, .int .i64 q, .int .i64 0] 244) := HR.out.1
        have a0 := cell_of_row wr (w.heap.size + 1) 2 _ _ _ H0
        have z0 := frozen_of_row wr (w.heap.size + 1) 2 _ _ H0
        have A2 : (wr.setCell ⟨w.heap.size + 1, 2, none⟩ (.int .i64 r)).heap[w.heap.size + 1]? = some (.cells #[.int .i64 p, .int .i64 q, .int .i64 r] 244) := by
          rw [heap_setCell_same wr _ 2 _ _ _ H0]
          rfl
        have F2 := HR.out.2.trans (fr_set wr (w.heap.size + 1) 2 (.int .i64 r))
        have HG : Hid (Calls Tryz.prog 205 #[.slice (some ⟨g, 20, none⟩) 492 C] wr fun e w' => e = .returned (.tuple #[.int .i64 r, .int .i64 8, .bool true]) ∧ w' = wr) := hidI (by
          have h1 := getNum wr g C l 2 (by omega) HL.out (HB.out wr HR.out.2 2)
          rw [HRR.out] at h1
          exact h1)
        have HX := hidI (⟨A2, F2⟩ : _ ∧ _)
        clear A2 F2 H0
        go_wp2_with (go_at_call 205; refine HG.out.mono ?_; rintro e w5 ⟨rfl, hz⟩; rw [hz]; clear hz)
        exact ⟨⟨3, C - 8, rfl, by omega, rfl, hidI (by have := hC.out; omega), HX⟩, by simp [intOf]⟩
    · obtain rfl : j = 3 := by omega
      have HA3 : wr.heap[w.heap.size + 1]? = some (.cells #[.int .i64 p, .int .i64 q, .int .i64 r] 244) := HR.out.1
      have x0 := cell_of_row wr (w.heap.size + 1) 0 _ _ _ HA3
      have x1 := cell_of_row wr (w.heap.size + 1) 1 _ _ _ HA3
      have x2 := cell_of_row wr (w.heap.size + 1) 2 _ _ _ HA3
      have MR := hidI (HR.out.2.same (by simp) hM2)
      have FW : Fr [] w wr := (f1.trans f2).then HR.out.2 (fun i hi e => by simp at e; omega)
      clear HA3
      have f3 : Fr [] wr (wr.alloc (.cells #[.int .i64 p, .int .i64 q, .int .i64 r] 72)) := (Fr.refl [] wr).alloc _
      have HN := hidI (mayBe_no (wr.alloc (.cells #[.int .i64 p, .int .i64 q, .int .i64 r] 72)) p q r (by rw [HZ.out]; omega))
      have G3 := hidI f3
      have GW := hidI FW
      have hws : Hid (w.heap.size < wr.heap.size) := hidI (Array.getElem?_eq_some_iff.1 MR.out).1
      clear FW f3
      go_wp2_with first
        | (refine wp_storeM rfl _ _ rfl w.heap.size ⟨0, 0, 0⟩ ⟨0, 0, 0⟩ rfl rfl RM.out ?_; intro w7 r7 f7)
        | (go_at_call 127; refine HN.out.mono ?_; rintro e w6 ⟨rfl, g6⟩; have RM := hidI (g6.same (by simp) (G3.out.same (by simp) MR.out)); have GQ := hidI (GW.out.trans (G3.out.trans g6)); clear g6)
      exact bodyPost_ret (resM Tryz.results121 _ _ _ ⟨0, 0, 0⟩ rfl r7) rfl ⟨rfl, GQ.out.then f7 (fun i hi e => by simp at e; omega)⟩
set_option maxHeartbeats 2000000 in
set_option maxRecDepth 100000 in
theorem stand_yes2 (w : World) (g c : Nat) (l : List UInt8) (hl : l.length = 512) (hb : Blk w g l) (hc : 512 ≤ c) (k : Int) (p q r : Int) (hp : numL l 0 = p) (hq : numL l 1 = q) (hr : numL l 2 = r) (hm : MOk ⟨p, q, r⟩) (hlm : l = mBytes ⟨p, q, r⟩) (hk : k = p % 2) :
    Calls Tryz.prog 121 #[.slice (some ⟨g, 0, none⟩) 512 c, .int .i64 k] w fun e w' => e = .returned (.agg (mV ⟨p, q, r⟩)) ∧ Fr [] w w' := by
  have HL := hidI hl
  have f1 : Fr [] w (w.alloc (.cells #[.int .i64 0, .int .i64 0, .int .i64 0] 72)) := (Fr.refl [] w).alloc _
  have hM := heap_alloc_new w (.cells #[.int .i64 0, .int .i64 0, .int .i64 0] 72)
  have hs1 : (w.alloc (.cells #[.int .i64 0, .int .i64 0, .int .i64 0] 72)).heap.size = w.heap.size + 1 := by simp
  obtain ⟨w1, hw1⟩ : ∃ w1, w.alloc (.cells #[.int .i64 0, .int .i64 0, .int .i64 0] 72) = w1 := ⟨_, rfl⟩
  rw [hw1] at f1 hM hs1
  have f2 : Fr [] w1 (w1.alloc (.cells #[.int .i64 0, .int .i64 0, .int .i64 0] 244)) := (Fr.refl [] w1).alloc _
  have hA := heap_alloc_new w1 (.cells #[.int .i64 0, .int .i64 0, .int .i64 0] 244)
  obtain ⟨w2, hw2⟩ : ∃ w2, w1.alloc (.cells #[.int .i64 0, .int .i64 0, .int .i64 0] 244) = w2 := ⟨_, rfl⟩
  rw [hw2] at f2 hA
  rw [hs1] at hA
  have hM2 := f2.same (by simp) hM
  have hgs : g < w.heap.size := (Array.getElem?_eq_some_iff.1 hb).1
  have HB : Hid (∀ wr, Fr [w.heap.size + 1] w2 wr → ∀ j, BytesAt wr (some ⟨g, 4 + 8 * j, none⟩) (l.drop (4 + 8 * j))) := hidI (fun wr f j => by
    have h1 : Blk wr g l := f.same (by simp; omega) ((f1.trans f2).same (by simp) hb)
    have h2 := h1.bytes.sub (4 + 8 * j) 512
    rw [Nat.zero_add, List.take_of_length_le (by rw [List.length_drop]; omega)] at h2
    exact h2)
  have HM := hidI hm
  have HLM := hidI hlm
  have HK := hidI hk
  clear hm hlm hk
  have HP := hidI hp
  have HQ := hidI hq
  have HRR := hidI hr
  have cc : (512 : Int) ≤ (c : Int) := by omega
  have c4 : ¬ c = 4 := by omega
  clear hl hp hq hr
  go_enter Tryz.func121, Tryz.ntmps121
  go_wp2_with fail
  go_loopw [6, 14] (fun s6 s14 wr => ∃ j : Nat, ∃ C, s14 = .int .i64 (j : Int) ∧ j ≤ 3 ∧ s6 = .slice (some ⟨g, 4 + 8 * j, none⟩) (508 - 8 * j) C ∧ Hid (C = c - (4 + 8 * j)) ∧ Hid (wr.heap[w.heap.size + 1]? = some (.cells (arr3 p q r j) 244) ∧ Fr [w.heap.size + 1] w2 wr)) (fun _ i _ => 3 - (intOf i).toNat)
  case atStart => exact ⟨0, c - 4, rfl, by omega, rfl, hidI rfl, hidI ⟨hA, Fr.refl _ _⟩⟩
  case round =>
    obtain ⟨j, C, rfl, hj, rfl, hC, HR⟩ := hrel
    by_cases hlt : j < 3
    · have q8 : (8 : Int) ≤ (C : Int) := by have := hC.out; omega
      have q9 : ¬ C = 8 := by have := hC.out; omega
      rcases (by omega : j = 0 ∨ j = 1 ∨ j = 2) with rfl | rfl | rfl
      · have H0 : wr.heap[w.heap.size + 1]? = some (.cells #[.int .i64 0, .int .i64 0, .int .i64 0] 244) := HR.out.1
        have a0 := cell_of_row wr (w.heap.size + 1) 0 _ _ _ H0
        have z0 := frozen_of_row wr (w.heap.size + 1) 0 _ _ H0
        have A2 : (wr.setCell ⟨w.heap.size + 1, 0, none⟩ (.int .i64 p)).heap[w.heap.size + 1]? = some (.cells #[.int .i64 p, .int .i64 0, .int .i64 0] 244) := by
          rw [heap_setCell_same wr _ 0 _ _ _ H0]
          rfl
        have F2 := HR.out.2.trans (fr_set wr (w.heap.size + 1) 0 (.int .i64 p))
        have HG : Hid (Calls Tryz.prog 205 #[.slice (some ⟨g, 4, none⟩) 508 C] wr fun e w' => e = .returned (.tuple #[.int .i64 p, .int .i64 8, .bool true]) ∧ w' = wr) := hidI (by
          have h1 := getNum wr g C l 0 (by omega) HL.out (HB.out wr HR.out.2 0)
          rw [HP.out] at h1
          exact h1)
        have HX := hidI (⟨A2, F2⟩ : _ ∧ _)
        clear A2 F2 H0
        go_wp2_with (go_at_call 205; refine HG.out.mono ?_; rintro e w5 ⟨rfl, hz⟩; rw [hz]; clear hz)
        exact ⟨⟨1, C - 8, rfl, by omega, rfl, hidI (by have := hC.out; omega), HX⟩, by simp [intOf]⟩
      · have H0 : wr.heap[w.heap.size + 1]? = some (.cells #[.int .i64 p, .int .i64 0, .int .i64 0] 244) := HR.out.1
        have a0 := cell_of_row wr (w.heap.size + 1) 1 _ _ _ H0
        have z0 := frozen_of_row wr (w.heap.size + 1) 1 _ _ H0
        have A2 : (wr.setCell ⟨w.heap.size + 1, 1, none⟩ (.int .i64 q)).heap[w.heap.size + 1]? = some (.cells #[.int .i64 p, .int .i64 q, .int .i64 0] 244) := by
          rw [heap_setCell_same wr _ 1 _ _ _ H0]
          rfl
        have F2 := HR.out.2.trans (fr_set wr (w.heap.size + 1) 1 (.int .i64 q))
        have HG : Hid (Calls Tryz.prog 205 #[.slice (some ⟨g, 12, none⟩) 500 C] wr fun e w' => e = .returned (.tuple #[.int .i64 q, .int .i64 8, .bool true]) ∧ w' = wr) := hidI (by
          have h1 := getNum wr g C l 1 (by omega) HL.out (HB.out wr HR.out.2 1)
          rw [HQ.out] at h1
          exact h1)
        have HX := hidI (⟨A2, F2⟩ : _ ∧ _)
        clear A2 F2 H0
        go_wp2_with (go_at_call 205; refine HG.out.mono ?_; rintro e w5 ⟨rfl, hz⟩; rw [hz]; clear hz)
        exact ⟨⟨2, C - 8, rfl, by omega, rfl, hidI (by have := hC.out; omega), HX⟩, by simp [intOf]⟩
      · have H0 : wr.heap[w.heap.size + 1]? = some (.cells #[.int .i64 p, .int .i64 q, .int .i64 0] 244) := HR.out.1
        have a0 := cell_of_row wr (w.heap.size + 1) 2 _ _ _ H0
        have z0 := frozen_of_row wr (w.heap.size + 1) 2 _ _ H0
        have A2 : (wr.setCell ⟨w.heap.size + 1, 2, none⟩ (.int .i64 r)).heap[w.heap.size + 1]? = some (.cells #[.int .i64 p, .int .i64 q, .int .i64 r] 244) := by
          rw [heap_setCell_same wr _ 2 _ _ _ H0]
          rfl
        have F2 := HR.out.2.trans (fr_set wr (w.heap.size + 1) 2 (.int .i64 r))
        have HG : Hid (Calls Tryz.prog 205 #[.slice (some ⟨g, 20, none⟩) 492 C] wr fun e w' => e = .returned (.tuple #[.int .i64 r, .int .i64 8, .bool true]) ∧ w' = wr) := hidI (by
          have h1 := getNum wr g C l 2 (by omega) HL.out (HB.out wr HR.out.2 2)
          rw [HRR.out] at h1
          exact h1)
        have HX := hidI (⟨A2, F2⟩ : _ ∧ _)
        clear A2 F2 H0
        go_wp2_with (go_at_call 205; refine HG.out.mono ?_; rintro e w5 ⟨rfl, hz⟩; rw [hz]; clear hz)
        exact ⟨⟨3, C - 8, rfl, by omega, rfl, hidI (by have := hC.out; omega), HX⟩, by simp [intOf]⟩
    · obtain rfl : j = 3 := by omega
      have HA3 : wr.heap[w.heap.size + 1]? = some (.cells #[.int .i64 p, .int .i64 q, .int .i64 r] 244) := HR.out.1
      have x0 := cell_of_row wr (w.heap.size + 1) 0 _ _ _ HA3
      have x1 := cell_of_row wr (w.heap.size + 1) 1 _ _ _ HA3
      have x2 := cell_of_row wr (w.heap.size + 1) 2 _ _ _ HA3
      have MR := hidI (HR.out.2.same (by simp) hM2)
      have FW : Fr [] w wr := (f1.trans f2).then HR.out.2 (fun i hi e => by simp at e; omega)
      clear HA3
      have hk2 := HK.out
      subst hk2
      have f3 : Fr [] wr (wr.alloc (.cells #[.int .i64 p, .int .i64 q, .int .i64 r] 72)) := (Fr.refl [] wr).alloc _
      have T0 := heap_alloc_new wr (.cells #[.int .i64 p, .int .i64 q, .int .i64 r] 72)
      have G3 := hidI f3
      have GW := hidI FW
      clear FW f3
      go_wp2_with fail
      refine (mayBe_any _ ⟨p, q, r⟩ HM.out).mono ?_
      rintro e w6 ⟨rfl, g6⟩
      have T6 := g6.same (by simp) T0
      have c60 := cell_of_row w6 wr.heap.size 0 _ _ _ T6
      have c61 := cell_of_row w6 wr.heap.size 1 _ _ _ T6
      have c62 := cell_of_row w6 wr.heap.size 2 _ _ _ T6
      go_wp2_with fail
      refine (mblock_any _ ⟨p, q, r⟩ HM.out).mono ?_
      rintro e w7 ⟨rfl, g7⟩
      have T7 := g7.same (by simp) T6
      have c70 := cell_of_row w7 wr.heap.size 0 _ _ _ T7
      have c71 := cell_of_row w7 wr.heap.size 1 _ _ _ T7
      have c72 := cell_of_row w7 wr.heap.size 2 _ _ _ T7
      go_wp2_with fail
      refine (laid_any _ ⟨p, q, r⟩ HM.out).mono ?_
      rintro e w8 ⟨gg, rfl, b8, hgg, g8⟩
      have T8 := g8.same (by simp) T7
      have c80 := cell_of_row w8 wr.heap.size 0 _ _ _ T8
      have c81 := cell_of_row w8 wr.heap.size 1 _ _ _ T8
      have c82 := cell_of_row w8 wr.heap.size 2 _ _ _ T8
      have GQ := hidI (GW.out.trans (G3.out.trans (g6.trans (g7.trans g8))))
      have RM := hidI (g8.same (by simp) (g7.same (by simp) (g6.same (by simp) (G3.out.same (by simp) MR.out))))
      have b9 : Blk w8 g l := GQ.out.same (by simp) hb
      have B8 : Blk w8 gg l := by rw [HLM.out]; exact b8
      go_wp2_with fail
      refine (bytesEq_same _ _ _ _ _ _ l HL.out (by omega) b9.bytes B8.bytes).mono ?_
      rintro e w9 ⟨rfl, hz⟩
      rw [hz]
      clear hz
      go_wp2_with (refine wp_storeM rfl _ _ rfl w.heap.size ⟨0, 0, 0⟩ ⟨p, q, r⟩ rfl rfl RM.out ?_; intro w10 r10 f10)
      exact bodyPost_ret (resM Tryz.results121 _ _ _ ⟨p, q, r⟩ rfl r10) rfl ⟨rfl, GQ.out.then f10 (fun i hi e => by simp at e; omega)⟩
end Go.Proofs.YtopaeomjndblkaaGreat

namespace Go.Proofs.YtopaeomjndblkaaGreat
open Go.RowKit Go.Maps

theorem num_key8 (l : List UInt8) (j : Nat) (n : Int) (h : (l.drop (4 + 8 * j)).take 8 = key8 n) (h0 : -9223372036854775808 ≤ n) (h1 : n < 9223372036854775808) : numL l j = n := by
  unfold numL
  rw [h]
  unfold key8
  rw [ofBe_be, Nat.mod_eq_of_lt (by omega)]
  omega
theorem drop_app_len {α : Type} (a b : List α) (n : Nat) (h : a.length = n) : (a ++ b).drop n = b := by
  subst h
  exact List.drop_left
theorem take_app_len {α : Type} (a b : List α) (n : Nat) (h : a.length = n) : (a ++ b).take n = a := by
  subst h
  exact List.take_left
theorem num_mBytes (m : Mst) (h : MOk m) : numL (mBytes m) 0 = m.seq ∧ numL (mBytes m) 1 = m.turn ∧ numL (mBytes m) 2 = m.old := by
  obtain ⟨s0, s1, t0, t1, o0, o1⟩ := h
  refine ⟨num_key8 _ 0 _ ?_ (by omega) (by omega), num_key8 _ 1 _ ?_ (by omega) (by omega), num_key8 _ 2 _ ?_ (by omega) (by omega)⟩
  · have e : mBytes m = [80, 77, 48, 49] ++ (key8 m.seq ++ (key8 m.turn ++ (key8 m.old ++ (beK 4 (crc (mHead m)) ++ zs 480)))) := by simp only [mBytes, mHead, List.append_assoc]
    rw [e, drop_app_len _ _ (4 + 8 * 0) rfl, take_app_len _ _ _ (key8_length _)]
  · have e : mBytes m = ([80, 77, 48, 49] ++ key8 m.seq) ++ (key8 m.turn ++ (key8 m.old ++ (beK 4 (crc (mHead m)) ++ zs 480))) := by simp only [mBytes, mHead, List.append_assoc]
    rw [e, drop_app_len _ _ _ (by simp [key8_length]), take_app_len _ _ _ (key8_length _)]
  · have e : mBytes m = ([80, 77, 48, 49] ++ key8 m.seq ++ key8 m.turn) ++ (key8 m.old ++ (beK 4 (crc (mHead m)) ++ zs 480)) := by simp only [mBytes, mHead, List.append_assoc]
    rw [e, drop_app_len _ _ _ (by simp [key8_length]), take_app_len _ _ _ (key8_length _)]
theorem num_zs : numL (zs 512) 0 = -9223372036854775808 := by
  have h : ((zs 512).drop (4 + 8 * 0)).take 8 = be 8 0 := by decide
  unfold numL
  rw [h, ofBe_be]
  rfl
/-- What stands in a block: a master, or none. -/
inductive Stands : List UInt8 → Int → Mst → Prop
  | one (m : Mst) (h : MOk m) : Stands (mBytes m) (m.seq % 2) m
  | none (k : Int) : Stands (zs 512) k ⟨0, 0, 0⟩
theorem standing_any (w : World) (g c : Nat) (l : List UInt8) (k : Int) (m : Mst) (h : Stands l k m) (hb : Blk w g l) (hc : 512 ≤ c) :
    Calls Tryz.prog 121 #[.slice (some ⟨g, 0, none⟩) 512 c, .int .i64 k] w fun e w' => e = .returned (.agg (mV m)) ∧ Fr [] w w' := by
  cases h with
  | one m h =>
    obtain ⟨e0, e1, e2⟩ := num_mBytes m h
    obtain ⟨p, q, r⟩ := m
    exact stand_yes2 w g c _ (mBytes_length _) hb hc _ p q r e0 e1 e2 h rfl rfl
  | none => exact stand_no2 w g c _ (zs_length _) hb hc _ _ _ _ num_zs rfl rfl rfl
end Go.Proofs.YtopaeomjndblkaaGreat

