/-
  The device's contracts beside the log's: what stays as it was.
-/
import Derived.Test.YtopaeomjndblkaaGreatQSeal
import Derived.Test.YtopaeomjndblkaaGreatDvSync
import Derived.Lib.LazyBuf
namespace Go.Proofs.YtopaeomjndblkaaGreat
open Go.RowKit Go.Maps

theorem fr_dv {L : List Nat} {a b : World} (h : Dv.Fr L a b) : Fr L a b := ⟨h.os, h.tape, h.output, h.size, h.block⟩
theorem dv_fr {L : List Nat} {a b : World} (h : Fr L a b) : Dv.Fr L a b := ⟨h.os, h.tape, h.output, h.size, h.block⟩
theorem dev_kept {w w' : World} {p bs bo : Nat} {n a : Int} {dn : Bool} {S O : Dv.Tab} (h : Dv.Dev w p bs bo n a dn S O) {L : List Nat} (k : Fr L w w') (hp : p ∉ L) (hs : bs ∉ L) (ho : bo ∉ L) : Dv.Dev w' p bs bo n a dn S O := h.kept (dv_fr k) hp hs ho
theorem latest_len {w : World} {p bs bo : Nat} {n a : Int} {dn : Bool} {S O : Dv.Tab} (h : Dv.Dev w p bs bo n a dn S O) (k : Int) : (Dv.latest S O k).length = 512 := by
  unfold Dv.latest
  cases e : O k with
  | none => exact h.safe.get_length k
  | some l => exact h.opn.len e
theorem dread {w : World} {p bs bo : Nat} {n a : Int} {S O : Dv.Tab} (h : Dv.Dev w p bs bo n a false S O) (k : Int) (h0 : 0 ≤ k) (h1 : k < n) :
    Calls Tryz.prog 83 #[.pointer (some ⟨p, 0, none⟩), .int .i64 k] w fun e w' => ∃ g, e = .returned (.tuple #[.slice (some ⟨g, 0, none⟩) 512 512, .int .i64 0]) ∧ Blk w' g (Dv.latest S O k) ∧ w.heap.size ≤ g ∧ Fr [] w w' := by
  refine (Dv.read_dev h k h0 h1).mono ?_
  rintro e w' ⟨g, rfl, b, hg, f⟩
  exact ⟨g, rfl, b, hg, fr_dv f⟩
/-- An area in a box. -/
def ABox (w : World) (b d : Nat) (x y : Int) : Prop := w.heap[b]? = some (.cells #[.pointer (some ⟨d, 0, none⟩), .int .i64 x, .int .i64 y] 220)
theorem ABox.cells {w w' : World} {b d : Nat} {x y : Int} (h : ABox w b d x y) (f : Fr [] w w') : w'.cell? ⟨b, 0, none⟩ = some (.pointer (some ⟨d, 0, none⟩)) ∧ w'.cell? ⟨b, 1, none⟩ = some (.int .i64 x) ∧ w'.cell? ⟨b, 2, none⟩ = some (.int .i64 y) := by
  have h' : ABox w' b d x y := f.same (by simp) h
  exact ⟨cell_of_row w' b 0 _ _ _ h', cell_of_row w' b 1 _ _ _ h', cell_of_row w' b 2 _ _ _ h'⟩

set_option maxHeartbeats 400000 in
set_option maxRecDepth 100000 in
theorem stand_no (w : World) (d bs bo : Nat) (nb a : Int) (S O : Dv.Tab) (hd : Dv.Dev w d bs bo nb a false S O) (first count T : Int) (f0 : 0 ≤ first) (f1 : first < nb) (f2 : first ≤ 65536) (c0 : 4 ≤ count) (c1 : count ≤ 65536) (hP : stampP ((Dv.latest S O first).take 64) ≠ 1) :
    Calls Tryz.prog 174 #[.agg #[.pointer (some ⟨d, 0, none⟩), .int .i64 first, .int .i64 count], .int .i64 1, .int .i64 T] w fun e w' => e = .returned (.tuple #[.slice none 0 0, .int .i64 0]) ∧ Fr [] w w' := by
  have ab : ABox (w.alloc (.cells #[.pointer (some ⟨d, 0, none⟩), .int .i64 first, .int .i64 count] 220)) w.heap.size d first count := heap_alloc_new w _
  have fa : Fr [] w (w.alloc (.cells #[.pointer (some ⟨d, 0, none⟩), .int .i64 first, .int .i64 count] 220)) := (Fr.refl [] w).alloc _
  go_enter Tryz.func174, Tryz.ntmps174
  go_wp2_with (go_at_call 224; refine (inSector_any _ 0 (by omega)).mono ?_; rintro e w' ⟨rfl, hw⟩; subst hw)
  generalize w.alloc (.cells #[.pointer (some ⟨d, 0, none⟩), .int .i64 first, .int .i64 count] 220) = w1 at ab fa ⊢
  go_loopw [8, 9, 10, 11, 12] (fun s8 s9 s10 s11 s12 wr => s8 = .slice none 0 0 ∧ s9 = .slice none 0 0 ∧ s10 = .int .i64 0 ∧ s11 = .int .i64 1 ∧ s12 = .int .i64 1 ∧ wr = w1) (fun _ _ _ _ _ _ => 0)
  case atStart => exact ⟨rfl, rfl, rfl, rfl, rfl, rfl⟩
  case round =>
    obtain ⟨rfl, rfl, rfl, rfl, rfl, hwr⟩ := hrel
    subst hwr
    have heq : ∀ w : World, (binOp .eql 37 (.slice none 0 0) (.slice none 0 0)).run Tryz.prog w = .ok (.bool true) w := fun w => Lib.run_eql_slice_nil w _ _ none 0 0 0 0 Tryz.underlying37
    go_wp2
    clear heq
    obtain ⟨B, HB⟩ : ∃ B, Hid (w.heap.size = B) := ⟨_, rfl⟩
    rw [HB.out] at ab ⊢
    have hd1 := dev_kept hd fa (by simp) (by simp) (by simp)
    go_cut [13, 14] from 13 (fun s13 s14 wx => ∃ g, s13 = .slice (some ⟨g, 0, none⟩) 512 512 ∧ s14 = .int .i64 0 ∧ Blk wx g (Dv.latest S O first) ∧ Fr [] wr wx)
    case first => as_aux_lemma =>
      obtain ⟨W0, HW0⟩ : ∃ W0, Hid (W0 = wr) := ⟨_, rfl⟩
      have gg : Fr [] W0 wr.drew := (by rw [HW0.out]; exact (Fr.refl _ _).drew)
      rw [← HW0.out] at ab hd1
      have SK : Hid (∀ w', Fr [] W0 w' → w'.cell? ⟨B, 0, none⟩ = some (.pointer (some ⟨d, 0, none⟩)) ∧ w'.cell? ⟨B, 1, none⟩ = some (.int .i64 first) ∧ w'.cell? ⟨B, 2, none⟩ = some (.int .i64 count)) := hidI (fun w' f => ab.cells f)
      have SD : Hid (∀ w', Fr [] W0 w' → Dv.Dev w' d bs bo nb a false S O) := hidI (fun w' f => dev_kept hd1 f (by simp) (by simp) (by simp))
      have k0 := SK.out _ gg
      go_region_held3 (fun w' => w'.cell? ⟨B, 0, none⟩ = some (.pointer (some ⟨d, 0, none⟩)) ∧ w'.cell? ⟨B, 1, none⟩ = some (.int .i64 first) ∧ w'.cell? ⟨B, 2, none⟩ = some (.int .i64 count)) (first | exact SK.out _ gg)
        ((first
          | (go_at_call 185; refine (block_any _ _ first count 0 (by omega) f0 f2 c0 c1).mono ?_; rintro e w7 ⟨rfl, f7⟩; replace gg := gg.trans f7)
          | (go_at_call 83; refine (dread (SD.out _ gg) first f0 f1).mono ?_; rintro e w8 ⟨g8, rfl, b8, hg8, f8⟩; replace gg := gg.trans f8)))
      all_goals go_wp2
      all_goals go_meet
      all_goals (have HW := HW0.out; subst HW)
      all_goals exact ⟨g8, rfl, rfl, b8, gg⟩
    obtain ⟨g, rfl, rfl, bx, fx⟩ := hcut
    have hL := latest_len hd first
    generalize Dv.latest S O first = L at bx hL hP
    have hl64 : (L.take 64).length = 64 := by rw [List.length_take, hL]; rfl
    have b64 : BytesAt wc (some ⟨g, 0, none⟩) (L.take 64) := by simpa using bx.bytes.sub 0 64
    have hs : Calls Tryz.prog 225 #[.slice (some ⟨g, 0, none⟩) 512 512, .int .i64 1] wc fun e w' => e = .returned (.slice (some ⟨g, 0, none⟩) 64 512) ∧ w' = wc := sectorOf_any wc g 512 0 (by omega) (by omega)
    have hr := readStamp_any wc g 0 64 512 (L.take 64) hl64 (by omega) (by omega) b64
    generalize L.take 64 = L64 at hl64 b64 hr hP
    have q1 : (stampP L64 != 1) = true := by rw [bne_iff_ne]; exact hP
    generalize stampP L64 = SP at hr q1
    generalize stampT L64 = ST at hr
    generalize stampU L64 = SU at hr
    clear hP
    go_wp2_with (first
      | (go_at_call 225; refine hs.mono ?_; rintro e wc ⟨rfl, rfl⟩)
      | (go_at_call 226; refine hr.mono ?_; rintro e w9 ⟨rfl, f9⟩))
    go_ret2
    exact ⟨rfl, ((fa.trans fx).trans f9).alloc _⟩

set_option maxHeartbeats 400000 in
set_option maxRecDepth 100000 in
theorem stand_yes (w : World) (d bs bo : Nat) (nb a : Int) (S O : Dv.Tab) (hd : Dv.Dev w d bs bo nb a false S O) (first count T : Int) (f0 : 0 ≤ first) (f1 : first < nb) (f2 : first ≤ 65536) (c0 : 4 ≤ count) (c1 : count ≤ 65536) (n : Nat) (hP : stampP ((Dv.latest S O first).take 64) = 1) (hT1 : 1 ≤ stampT ((Dv.latest S O first).take 64)) (hT2 : stampT ((Dv.latest S O first).take 64) < T) (hU : stampU ((Dv.latest S O first).take 64) = n) (hn0 : 1 ≤ n) (hn : n < 51) :
    Calls Tryz.prog 174 #[.agg #[.pointer (some ⟨d, 0, none⟩), .int .i64 first, .int .i64 count], .int .i64 1, .int .i64 T] w fun e w' => ∃ v, e = .returned (.tuple #[v, .int .i64 0]) ∧ Own w w' v n (arr (((Dv.latest S O first).drop 13).take n)).toList := by
  have ab : ABox (w.alloc (.cells #[.pointer (some ⟨d, 0, none⟩), .int .i64 first, .int .i64 count] 220)) w.heap.size d first count := heap_alloc_new w _
  have fa : Fr [] w (w.alloc (.cells #[.pointer (some ⟨d, 0, none⟩), .int .i64 first, .int .i64 count] 220)) := (Fr.refl [] w).alloc _
  go_enter Tryz.func174, Tryz.ntmps174
  go_wp2_with (go_at_call 224; refine (inSector_any _ 0 (by omega)).mono ?_; rintro e w' ⟨rfl, hw⟩; subst hw)
  generalize w.alloc (.cells #[.pointer (some ⟨d, 0, none⟩), .int .i64 first, .int .i64 count] 220) = w1 at ab fa ⊢
  go_loopw [8, 9, 10, 11, 12] (fun s8 s9 s10 s11 s12 wr => s8 = .slice none 0 0 ∧ s9 = .slice none 0 0 ∧ s10 = .int .i64 0 ∧ s11 = .int .i64 1 ∧ s12 = .int .i64 1 ∧ wr = w1) (fun _ _ _ _ _ _ => 0)
  case atStart => exact ⟨rfl, rfl, rfl, rfl, rfl, rfl⟩
  case round =>
    obtain ⟨rfl, rfl, rfl, rfl, rfl, hwr⟩ := hrel
    subst hwr
    have heq : ∀ w : World, (binOp .eql 37 (.slice none 0 0) (.slice none 0 0)).run Tryz.prog w = .ok (.bool true) w := fun w => Lib.run_eql_slice_nil w _ _ none 0 0 0 0 Tryz.underlying37
    go_wp2
    clear heq
    obtain ⟨B, HB⟩ : ∃ B, Hid (w.heap.size = B) := ⟨_, rfl⟩
    rw [HB.out] at ab ⊢
    have hd1 := dev_kept hd fa (by simp) (by simp) (by simp)
    go_cut [13, 14] from 13 (fun s13 s14 wx => ∃ g, s13 = .slice (some ⟨g, 0, none⟩) 512 512 ∧ s14 = .int .i64 0 ∧ Blk wx g (Dv.latest S O first) ∧ Fr [] wr wx)
    case first => as_aux_lemma =>
      obtain ⟨W0, HW0⟩ : ∃ W0, Hid (W0 = wr) := ⟨_, rfl⟩
      have gg : Fr [] W0 wr.drew := (by rw [HW0.out]; exact (Fr.refl _ _).drew)
      rw [← HW0.out] at ab hd1
      have SK : Hid (∀ w', Fr [] W0 w' → w'.cell? ⟨B, 0, none⟩ = some (.pointer (some ⟨d, 0, none⟩)) ∧ w'.cell? ⟨B, 1, none⟩ = some (.int .i64 first) ∧ w'.cell? ⟨B, 2, none⟩ = some (.int .i64 count)) := hidI (fun w' f => ab.cells f)
      have SD : Hid (∀ w', Fr [] W0 w' → Dv.Dev w' d bs bo nb a false S O) := hidI (fun w' f => dev_kept hd1 f (by simp) (by simp) (by simp))
      have k0 := SK.out _ gg
      go_region_held3 (fun w' => w'.cell? ⟨B, 0, none⟩ = some (.pointer (some ⟨d, 0, none⟩)) ∧ w'.cell? ⟨B, 1, none⟩ = some (.int .i64 first) ∧ w'.cell? ⟨B, 2, none⟩ = some (.int .i64 count)) (first | exact SK.out _ gg)
        ((first
          | (go_at_call 185; refine (block_any _ _ first count 0 (by omega) f0 f2 c0 c1).mono ?_; rintro e w7 ⟨rfl, f7⟩; replace gg := gg.trans f7)
          | (go_at_call 83; refine (dread (SD.out _ gg) first f0 f1).mono ?_; rintro e w8 ⟨g8, rfl, b8, hg8, f8⟩; replace gg := gg.trans f8)))
      all_goals go_wp2
      all_goals go_meet
      all_goals (have HW := HW0.out; subst HW)
      all_goals exact ⟨g8, rfl, rfl, b8, gg⟩
    obtain ⟨g, rfl, rfl, bx, fx⟩ := hcut
    have hL := latest_len hd first
    generalize hLq : Dv.latest S O first = L at bx hL hP hT1 hT2 hU
    have HLq := hidI hLq
    clear hLq
    have hl64 : (L.take 64).length = 64 := by rw [List.length_take, hL]; rfl
    have b64 : BytesAt wc (some ⟨g, 0, none⟩) (L.take 64) := by simpa using bx.bytes.sub 0 64
    have bn : BytesAt wc (some ⟨g, 13, none⟩) ((L.drop 13).take n) := by simpa using bx.bytes.sub 13 n
    have hln : ((L.drop 13).take n).length = n := by rw [List.length_take, List.length_drop, hL]; omega
    have hs : Calls Tryz.prog 225 #[.slice (some ⟨g, 0, none⟩) 512 512, .int .i64 1] wc fun e w' => e = .returned (.slice (some ⟨g, 0, none⟩) 64 512) ∧ w' = wc := sectorOf_any wc g 512 0 (by omega) (by omega)
    have hr := readStamp_any wc g 0 64 512 (L.take 64) hl64 (by omega) (by omega) b64
    generalize L.take 64 = L64 at hl64 b64 hr hP hT1 hT2 hU
    rw [hP, hU] at hr
    generalize stampT L64 = ST at hr hT1 hT2
    generalize hLn : (L.drop 13).take n = LN at bn hln
    have HLn := hidI hLn
    clear hLn
    have q1 : ¬ ST < 1 := by omega
    have q2 : ¬ T ≤ ST := by omega
    have q3 : ¬ (n : Int) < 0 := by omega
    have q4 : ¬ (51 : Int) < (n : Int) := by omega
    have q5 : (n : Int) < 51 := by omega
    obtain ⟨M, HM⟩ : ∃ M : Nat, Hid (13 + n = M) := ⟨_, rfl⟩
    have hwM : IntKind.i64.wrap (13 + (n : Int)) = (M : Int) := by rw [wrapI _ (by omega) (by omega), ← HM.out]; omega
    have w13 : IntKind.i64.wrap 13 = 13 := rfl
    have hM1 : (13 : Int) ≤ M := by have h := HM.out; omega
    have hM2 : (M : Int) ≤ 512 := by have h := HM.out; omega
    have hMn : M - 13 = n := by have h := HM.out; omega
    have BN := hidI bn
    clear hP hU hT1 hT2 bn b64 hl64 bx
    go_wp2_with (first
      | (go_at_call 225; refine hs.mono ?_; rintro e wc ⟨rfl, rfl⟩)
      | (go_at_call 226; refine hr.mono ?_; rintro e w9 ⟨rfl, f9⟩)
      | (refine wp_app rfl _ _ rfl _ _ 0 _ rfl (own_empty _) (some ⟨g, 13, none⟩) n _ LN rfl hln (BN.out.kept (f9.alloc _) (by simp)) (by omega) (fun h => absurd h (by omega)) ?_; intro v11 w11 o11; have t11 := (TBox.kept (heap_alloc_new w9 _ : TBox _ w9.heap.size 1 ST n) o11.2 (by simp)).c2))
    go_ret2
    rw [arr_append, List.nil_append] at o11
    have o12 := own_base (own_len o11 (Nat.zero_add n)) (((fa.trans fx).trans f9).alloc _)
    rw [HLq.out, HLn.out]
    exact ⟨_, rfl, o12⟩

end Go.Proofs.YtopaeomjndblkaaGreat
