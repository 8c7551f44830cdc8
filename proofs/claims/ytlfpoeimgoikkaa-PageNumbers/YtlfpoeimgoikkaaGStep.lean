/-
  One change, by the program and by the document, as the law does it.
-/
import Derived.Test.YtlfpoeimgoikkaaGBoth
import Derived.Test.YtlfpoeimgoikkaaGLent
import Derived.Test.YtlfpoeimgoikkaaGPick
import Derived.Test.YtlfpoeimgoikkaaGDos
namespace Go.Proofs.Ytlfpoeimgoikkaa
open Go.RowKit Go.Maps

def BoxD (w : World) (b : Nat) (dop dslot dnext : Int) (ca : Option Addr) (cl cc : Nat) : Prop := w.heap[b]? = some (.cells #[.int .i64 dop, .int .i64 dslot, .int .i64 dnext, .slice ca cl cc] 34)
theorem BoxD.kept {w w' : World} {b : Nat} {dop dslot dnext : Int} {ca : Option Addr} {cl cc : Nat} {L : List Nat} (h : BoxD w b dop dslot dnext ca cl cc) (k : Fr L w w') (hb : b ∉ L) : BoxD w' b dop dslot dnext ca cl cc := k.same hb h
theorem BoxD.c0 {w : World} {b : Nat} {dop dslot dnext : Int} {ca : Option Addr} {cl cc : Nat} (h : BoxD w b dop dslot dnext ca cl cc) : w.cell? ⟨b, 0, none⟩ = some (.int .i64 dop) := cell_of_row w b 0 _ _ _ h
theorem BoxD.c1 {w : World} {b : Nat} {dop dslot dnext : Int} {ca : Option Addr} {cl cc : Nat} (h : BoxD w b dop dslot dnext ca cl cc) : w.cell? ⟨b, 1, none⟩ = some (.int .i64 dslot) := cell_of_row w b 1 _ _ _ h
theorem BoxD.c2 {w : World} {b : Nat} {dop dslot dnext : Int} {ca : Option Addr} {cl cc : Nat} (h : BoxD w b dop dslot dnext ca cl cc) : w.cell? ⟨b, 2, none⟩ = some (.int .i64 dnext) := cell_of_row w b 2 _ _ _ h
theorem BoxD.c3 {w : World} {b : Nat} {dop dslot dnext : Int} {ca : Option Addr} {cl cc : Nat} (h : BoxD w b dop dslot dnext ca cl cc) : w.cell? ⟨b, 3, none⟩ = some (.slice ca cl cc) := cell_of_row w b 3 _ _ _ h

set_option maxHeartbeats 2000000 in
set_option maxRecDepth 100000 in
theorem step_any (w : World) (a1 a2 : Option Addr) (n c1 c2 : Nat) (l : List UInt8) (h1 : PageAt w a1 n c1 l) (h2 : PageAt w a2 n c2 l) (hap : ∀ b, b ∈ blkOf a1 → b ∉ blkOf a2) (B : Nat) (hB1 : ∀ b, b ∈ blkOf a1 → B ≤ b ∧ b < w.heap.size) (hB2 : ∀ b, b ∈ blkOf a2 → B ≤ b ∧ b < w.heap.size)
    (dop dslot dnext : Int) (ca : Option Addr) (cl cc : Nat) (C : List UInt8) (hd : DoOk w ⟨dop, dslot, dnext, ca, cl, cc, C⟩) (hcb : ∀ b off, ca = some ⟨b, off, none⟩ → 0 < cl → b < B) (hcl : cl ≤ 5000) (hn : n ≤ 1000000) :
    Calls Try.prog 18 #[.slice a1 n c1, .slice a2 n c2, .agg #[.int .i64 dop, .int .i64 dslot, .int .i64 dnext, .slice ca cl cc]] w fun r w' => r = .returned (.bool true) ∧ ∃ l', PageAt w' a1 n c1 l' ∧ PageAt w' a2 n c2 l' ∧ Fr (blkOf a1 ++ blkOf a2) w w' := by
  have H1 := hidI h1
  have H2 := hidI h2
  have HAP := hidI hap
  have HB1 := hidI hB1
  have HB2 := hidI hB2
  have HD := hidI hd
  have HCB := hidI hcb
  clear h1 h2 hap hB1 hB2 hd hcb
  go_enter Try.func18, Try.ntmps18
  go_wp2_with fail
  have bx0 : BoxD (w.alloc (.cells #[.int .i64 dop, .int .i64 dslot, .int .i64 dnext, .slice ca cl cc] 34)) w.heap.size dop dslot dnext ca cl cc := heap_alloc_new w _
  have f1 := (Fr.refl [] w).alloc (.cells #[.int .i64 dop, .int .i64 dslot, .int .i64 dnext, .slice ca cl cc] 34)
  have hs1 : (w.alloc (.cells #[.int .i64 dop, .int .i64 dslot, .int .i64 dnext, .slice ca cl cc] 34)).heap.size = w.heap.size + 1 := by simp
  generalize w.alloc (.cells #[.int .i64 dop, .int .i64 dslot, .int .i64 dnext, .slice ca cl cc] 34) = w1 at bx0 f1 hs1 ⊢
  refine (lent_sl _ _ _ _ C (HD.out.cell.kept f1 (by simp)) hcl HD.out.nil).mono ?_
  rintro e w2 ⟨gi, capi, rfl, le2, hg2, f2, _⟩
  have hgi : w.heap.size < gi := by omega
  obtain ⟨xb, HXB⟩ : ∃ xb, Hid (w.heap.size = xb) := ⟨_, rfl⟩
  rw [HXB.out] at bx0 hgi ⊢
  have BX : Hid (BoxD w2 xb dop dslot dnext ca cl cc) := bx0.kept f2 (by simp)
  have LE := hidI le2
  have F02 : Hid (Fr [] w w2) := f1.trans f2
  have x0 := BX.out.c0
  clear bx0 f1 hs1 le2 hg2 f2
  go_wp2_with fail
  refine (pick_any _ dop 5 HD.out.op (by omega) (by omega)).mono ?_
  rintro e w2 ⟨rfl, rfl⟩
  obtain ⟨M, HM⟩ : ∃ M : Int, Hid (dop % 5 = M) := ⟨_, rfl⟩
  have hM0 : 0 ≤ M := by have := HM.out; omega
  have hM5 : M < 5 := by have := HM.out; omega
  rw [HM.out]
  clear x0
  -- what is to be kept
  have P1 : Hid (PageAt w2 a1 n c1 l) := H1.out.kept F02.out (by simp)
  have P2 : Hid (PageAt w2 a2 n c2 l) := H2.out.kept F02.out (by simp)
  have SK : Hid (∀ w' L, Fr L w2 w' → (∀ b ∈ L, b ∈ blkOf a1 ++ blkOf a2) → BoxD w' xb dop dslot dnext ca cl cc ∧ LentAt w' gi capi C ∧ SlAt w' ca cl cc C) := by
    intro w' L f hL
    have key : ∀ b ∈ L, B ≤ b ∧ b < w.heap.size := by
      intro b hb
      rcases List.mem_append.1 (hL b hb) with h | h
      · exact HB1.out b h
      · exact HB2.out b h
    refine ⟨BX.out.kept f (fun hm => ?_), LE.out.kept f (fun hm => ?_), ?_⟩
    · have := key _ hm; have := HXB.out; omega
    · have := key _ hm; have := HXB.out; omega
    · have hc := HD.out.cell.kept F02.out (by simp)
      by_cases h0 : cl = 0
      · exact ⟨hc.len, by have : C = [] := List.eq_nil_of_length_eq_zero (by rw [hc.len]; exact h0); rw [this]; exact BytesAt.nil _ _, hc.cap⟩
      · exact hc.kept f (fun b off e hm => by
          have h3 : b < B := HCB.out b off e (by omega)
          have := key _ hm
          omega)
  clear BX LE
  by_cases hM : M ≤ 2
  · have m3 : ((M == 3) = false) := by simp; omega
    go_wp2_with fail
    all_goals as_aux_lemma =>
      obtain ⟨W0, hW0⟩ : ∃ W0, W0 = w2 := ⟨_, rfl⟩
      have gg : Fr (blkOf a1 ++ blkOf a2) W0 w2.drew := (by rw [hW0]; exact (Fr.refl _ _).drew)
      have SC : Hid (∀ w', Fr (blkOf a1 ++ blkOf a2) W0 w' → w'.cell? ⟨xb, 1, none⟩ = some (.int .i64 dslot) ∧ w'.cell? ⟨xb, 3, none⟩ = some (.slice ca cl cc)) := (by rw [hW0]; exact fun w' f => ⟨(SK.out w' _ f (fun b h => h)).1.c1, (SK.out w' _ f (fun b h => h)).1.c3⟩)
      have HW0 : Hid (W0 = w2) := hW0
      clear hW0
      go_region_held3 (fun w' => w'.cell? ⟨xb, 1, none⟩ = some (.int .i64 dslot) ∧ w'.cell? ⟨xb, 3, none⟩ = some (.slice ca cl cc)) (exact SC.out _ gg)
        ((first
          | (go_at_call 24; refine (insP_any _ a1 n c1 l (P1.out.kept (Fr.refl [] _).drew (by simp)) dslot _ cl capi C HD.out.cell.len (SK.out _ [] (Fr.refl [] _).drew (by simp)).2.1.bytes hcl).mono ?_; rintro e w5 ⟨rfl, p5, f5⟩; have P5 := hidI p5; replace gg := gg.trans (f5.mono (M := blkOf a1 ++ blkOf a2) (fun k _ h => List.mem_append_left _ h)); have G5 := hidI gg)
          | (go_at_call 47; refine (insR_any _ a2 n c2 l (P2.out.kept ((Fr.refl (blkOf a1) _).drew.trans f5) (fun b h2 h1 => HAP.out b h1 h2)) dslot ca cl cc C (SK.out w5 (blkOf a1 ++ blkOf a2) (by rw [← HW0.out]; exact G5.out) (fun b h => h)).2.2 HD.out.nil hcl).mono ?_; rintro e w6 ⟨rfl, p6, f6⟩; have P6 := hidI p6; have Q6 := hidI (P5.out.kept f6 (fun b h1 h2 => HAP.out b h1 h2)); replace gg := gg.trans (f6.mono (M := blkOf a1 ++ blkOf a2) (fun k _ h => List.mem_append_right _ h)))))
      have F26 : Hid (Fr (blkOf a1 ++ blkOf a2) w2 w6) := (by rw [← HW0.out]; exact gg)
      obtain ⟨l', HL'⟩ : ∃ l', Hid ((insRes l dslot C).2 = l') := ⟨_, rfl⟩
      rw [HL'.out] at P6 Q6
      clear gg G5 p5 p6 f5 f6 P5 SC HW0 HL' W0
      obtain ⟨bx6, le6, sl6⟩ := SK.out w6 _ F26.out (fun b h => h)
      have x3 := bx6.c3
      have LE6 := hidI le6
      have SL6 := hidI sl6
      clear bx6 le6 sl6
      go_wp2_with fail
      refine (kept_any _ gi capi cl cc ca C HD.out.cell.len hcl LE6.out SL6.out.bytes).mono ?_
      rintro e w7 ⟨rfl, f7⟩
      go_wp2_with fail
      refine (over_any _ gi capi cl C HD.out.cell.len hcl (LE6.out.kept f7 (by simp))).mono ?_
      rintro e w8 ⟨rfl, f8⟩
      have q8 : PageAt w8 a1 n c1 l' := (Q6.out.kept f7 (by simp)).kept f8 (fun b h hm => (by have := HB1.out b h; have := HXB.out; simp at hm; omega))
      have p8 : PageAt w8 a2 n c2 l' := (P6.out.kept f7 (by simp)).kept f8 (fun b h hm => (by have := HB2.out b h; have := HXB.out; simp at hm; omega))
      have f08 : Fr (blkOf a1 ++ blkOf a2) w w8 := ((fr_up _ F02.out).trans (F26.out.trans (fr_up _ f7))).then f8 (fun b h hm => (by have := HXB.out; simp at hm; omega))
      have Q8 := hidI q8
      have P8 := hidI p8
      have F08 := hidI f08
      clear q8 p8 f08 f7 f8 x3
      go_wp2_with fail
      refine (same_any _ _ _ l' l' n _ _ Q8.out.sl.bytes P8.out.sl.bytes Q8.out.len P8.out.len hn).mono ?_
      rintro e w9 ⟨rfl, f9⟩
      rw [show (l' == l') = true by simp]
      go_wp2_with fail
      go_ret
      exact ⟨rfl, l', Q8.out.kept f9 (by simp), P8.out.kept f9 (by simp), F08.out.trans (fr_up _ f9)⟩
  · have m0 : ((M == 0) = false) := by simp; omega
    have m1 : ((M == 1) = false) := by simp; omega
    have m2 : ((M == 2) = false) := by simp; omega
    by_cases hM3 : M = 3
    · have m3 : ((M == 3) = true) := by simp; omega
      clear hM3
      go_wp2_with fail
      obtain ⟨W0, hW0⟩ : ∃ W0, W0 = w2 := ⟨_, rfl⟩
      have gg : Fr (blkOf a1 ++ blkOf a2) W0 w2.drew := (by rw [hW0]; exact (Fr.refl _ _).drew)
      have SC : Hid (∀ w', Fr (blkOf a1 ++ blkOf a2) W0 w' → w'.cell? ⟨xb, 1, none⟩ = some (.int .i64 dslot)) := (by rw [hW0]; exact fun w' f => (SK.out w' _ f (fun b h => h)).1.c1)
      have HW0 : Hid (W0 = w2) := hW0
      clear hW0
      go_region_held3 (fun w' => w'.cell? ⟨xb, 1, none⟩ = some (.int .i64 dslot)) (exact SC.out _ gg)
        ((first
          | (go_at_call 26; refine (delP_any _ a1 n c1 l (P1.out.kept (Fr.refl [] _).drew (by simp)) dslot).mono ?_; rintro e w5 ⟨rfl, p5, f5⟩; have P5 := hidI p5; replace gg := gg.trans (f5.mono (M := blkOf a1 ++ blkOf a2) (fun k _ h => List.mem_append_left _ h)); have G5 := hidI gg)
          | (go_at_call 48; refine (delR_any _ a2 n c2 l (P2.out.kept ((Fr.refl (blkOf a1) _).drew.trans f5) (fun b h2 h1 => HAP.out b h1 h2)) dslot).mono ?_; rintro e w6 ⟨rfl, p6, f6⟩; have P6 := hidI p6; have Q6 := hidI (P5.out.kept f6 (fun b h1 h2 => HAP.out b h1 h2)); replace gg := gg.trans (f6.mono (M := blkOf a1 ++ blkOf a2) (fun k _ h => List.mem_append_right _ h)))))
      have F26 : Hid (Fr (blkOf a1 ++ blkOf a2) w2 w6) := (by rw [← HW0.out]; exact gg)
      obtain ⟨l', HL'⟩ : ∃ l', Hid ((delRes l dslot).2 = l') := ⟨_, rfl⟩
      rw [HL'.out] at P6 Q6
      clear gg G5 p5 p6 f5 f6 P5 SC HW0 HL' W0
      obtain ⟨bx6, le6, sl6⟩ := SK.out w6 _ F26.out (fun b h => h)
      have x3 := bx6.c3
      have LE6 := hidI le6
      have SL6 := hidI sl6
      clear bx6 le6 sl6
      go_wp2_with fail
      refine (kept_any _ gi capi cl cc ca C HD.out.cell.len hcl LE6.out SL6.out.bytes).mono ?_
      rintro e w7 ⟨rfl, f7⟩
      go_wp2_with fail
      refine (over_any _ gi capi cl C HD.out.cell.len hcl (LE6.out.kept f7 (by simp))).mono ?_
      rintro e w8 ⟨rfl, f8⟩
      have q8 : PageAt w8 a1 n c1 l' := (Q6.out.kept f7 (by simp)).kept f8 (fun b h hm => (by have := HB1.out b h; have := HXB.out; simp at hm; omega))
      have p8 : PageAt w8 a2 n c2 l' := (P6.out.kept f7 (by simp)).kept f8 (fun b h hm => (by have := HB2.out b h; have := HXB.out; simp at hm; omega))
      have f08 : Fr (blkOf a1 ++ blkOf a2) w w8 := ((fr_up _ F02.out).trans (F26.out.trans (fr_up _ f7))).then f8 (fun b h hm => (by have := HXB.out; simp at hm; omega))
      have Q8 := hidI q8
      have P8 := hidI p8
      have F08 := hidI f08
      clear q8 p8 f08 f7 f8 x3
      go_wp2_with fail
      refine (same_any _ _ _ l' l' n _ _ Q8.out.sl.bytes P8.out.sl.bytes Q8.out.len P8.out.len hn).mono ?_
      rintro e w9 ⟨rfl, f9⟩
      rw [show (l' == l') = true by simp]
      go_wp2_with fail
      go_ret
      exact ⟨rfl, l', Q8.out.kept f9 (by simp), P8.out.kept f9 (by simp), F08.out.trans (fr_up _ f9)⟩
    · have m3 : ((M == 3) = false) := by simp; omega
      clear hM3
      go_wp2_with fail
      obtain ⟨W0, hW0⟩ : ∃ W0, W0 = w2 := ⟨_, rfl⟩
      have gg : Fr (blkOf a1 ++ blkOf a2) W0 w2.drew := (by rw [hW0]; exact (Fr.refl _ _).drew)
      have SC : Hid (∀ w', Fr (blkOf a1 ++ blkOf a2) W0 w' → w'.cell? ⟨xb, 2, none⟩ = some (.int .i64 dnext)) := (by rw [hW0]; exact fun w' f => (SK.out w' _ f (fun b h => h)).1.c2)
      have HW0 : Hid (W0 = w2) := hW0
      clear hW0
      go_region_held3 (fun w' => w'.cell? ⟨xb, 2, none⟩ = some (.int .i64 dnext)) (exact SC.out _ gg)
        ((first
          | (go_at_call 28; refine (nxtP_any _ a1 n c1 l (P1.out.kept (Fr.refl [] _).drew (by simp)) dnext).mono ?_; rintro e w5 ⟨rfl, p5, f5⟩; have P5 := hidI p5; replace gg := gg.trans (f5.mono (M := blkOf a1 ++ blkOf a2) (fun k _ h => List.mem_append_left _ h)); have G5 := hidI gg)
          | (go_at_call 49; refine (nxtR_any _ a2 n c2 l (P2.out.kept ((Fr.refl (blkOf a1) _).drew.trans f5) (fun b h2 h1 => HAP.out b h1 h2)) dnext HD.out.next).mono ?_; rintro e w6 ⟨rfl, p6, f6⟩; have P6 := hidI p6; have Q6 := hidI (P5.out.kept f6 (fun b h1 h2 => HAP.out b h1 h2)); replace gg := gg.trans (f6.mono (M := blkOf a1 ++ blkOf a2) (fun k _ h => List.mem_append_right _ h)))))
      have F26 : Hid (Fr (blkOf a1 ++ blkOf a2) w2 w6) := (by rw [← HW0.out]; exact gg)
      obtain ⟨l', HL'⟩ : ∃ l', Hid ((nxtRes l dnext).2 = l') := ⟨_, rfl⟩
      rw [HL'.out] at P6 Q6
      clear gg G5 p5 p6 f5 f6 P5 SC HW0 HL' W0
      obtain ⟨bx6, le6, sl6⟩ := SK.out w6 _ F26.out (fun b h => h)
      have x3 := bx6.c3
      have LE6 := hidI le6
      have SL6 := hidI sl6
      clear bx6 le6 sl6
      go_wp2_with fail
      refine (kept_any _ gi capi cl cc ca C HD.out.cell.len hcl LE6.out SL6.out.bytes).mono ?_
      rintro e w7 ⟨rfl, f7⟩
      go_wp2_with fail
      refine (over_any _ gi capi cl C HD.out.cell.len hcl (LE6.out.kept f7 (by simp))).mono ?_
      rintro e w8 ⟨rfl, f8⟩
      have q8 : PageAt w8 a1 n c1 l' := (Q6.out.kept f7 (by simp)).kept f8 (fun b h hm => (by have := HB1.out b h; have := HXB.out; simp at hm; omega))
      have p8 : PageAt w8 a2 n c2 l' := (P6.out.kept f7 (by simp)).kept f8 (fun b h hm => (by have := HB2.out b h; have := HXB.out; simp at hm; omega))
      have f08 : Fr (blkOf a1 ++ blkOf a2) w w8 := ((fr_up _ F02.out).trans (F26.out.trans (fr_up _ f7))).then f8 (fun b h hm => (by have := HXB.out; simp at hm; omega))
      have Q8 := hidI q8
      have P8 := hidI p8
      have F08 := hidI f08
      clear q8 p8 f08 f7 f8 x3
      go_wp2_with fail
      refine (same_any _ _ _ l' l' n _ _ Q8.out.sl.bytes P8.out.sl.bytes Q8.out.len P8.out.len hn).mono ?_
      rintro e w9 ⟨rfl, f9⟩
      rw [show (l' == l') = true by simp]
      go_wp2_with fail
      go_ret
      exact ⟨rfl, l', Q8.out.kept f9 (by simp), P8.out.kept f9 (by simp), F08.out.trans (fr_up _ f9)⟩
end Go.Proofs.Ytlfpoeimgoikkaa
