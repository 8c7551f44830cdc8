/-
  A sector's stamp, and a log's first block laid: the program's seal and laid.
-/
import Derived.Test.YtopaeomjndblkaaGreatQLog1
namespace Go.Proofs.YtopaeomjndblkaaGreat
open Go.RowKit Go.Maps

theorem own_empty (w : World) : Own w w (.slice none 0 0) 0 (arr []).toList := ⟨⟨by simp [arr], Or.inl ⟨rfl, rfl⟩⟩, Fr.refl _ _⟩

/-- A stamp's bytes. -/
def stampL (P T U : Nat) : List UInt8 := beK 8 P ++ beK 4 T ++ beK 1 U
theorem stampL_length (P T U : Nat) : (stampL P T U).length = 13 := by simp [stampL, beK_length]

set_option maxHeartbeats 400000 in
set_option maxRecDepth 100000 in
theorem seal_any (w : World) (g c o c' : Nat) (p : List UInt8) (hg : RowB w g c p) (P T U : Nat) (hP : P < 9223372036854775808) (hT : T < 4294967296) (hU : U ≤ 51) (ho : o + 64 ≤ p.length) (hc : 64 ≤ c') :
    Calls Tryz.prog 229 #[.slice (some ⟨g, o, none⟩) 64 c', .agg #[.int .i64 (P : Int), .int .i64 (T : Int), .int .i64 (U : Int)]] w fun e w' => e = .returned (.tuple #[]) ∧ RowB w' g c (over (over p o (stampL P T U)) (o + (13 + U)) (zs (51 - U))) ∧ Fr [g] w w' := by
  have hgl := hg.lt
  have htx : TBox (w.alloc (.cells #[.int .i64 (P : Int), .int .i64 (T : Int), .int .i64 (U : Int)] 265)) w.heap.size P T U := heap_alloc_new w _
  have f1 : Fr [] w (w.alloc (.cells #[.int .i64 (P : Int), .int .i64 (T : Int), .int .i64 (U : Int)] 265)) := (Fr.refl [] w).alloc _
  have hP' : (P : Int) < 9223372036854775808 := by omega
  have hT' : (T : Int) < 4294967296 := by omega
  have hU' : (U : Int) < 256 := by omega
  obtain ⟨M, HM⟩ : ∃ M, Hid (13 + U = M) := ⟨_, rfl⟩
  have hw13 : IntKind.i64.wrap (13 + (U : Int)) = (M : Int) := by
    rw [wrapI (13 + (U : Int)) (by omega) (by omega), ← HM.out]
    omega
  have hi1 : (M : Int) ≤ 64 := by have h := HM.out; omega
  have hi2 : (64 : Int) ≤ c' := by omega
  have hi3 : (M : Int) ≤ c' := by omega
  go_enter Tryz.func229, Tryz.ntmps229
  go_wp2_with fail
  generalize w.alloc (.cells #[.int .i64 (P : Int), .int .i64 (T : Int), .int .i64 (U : Int)] 265) = w1 at htx f1 ⊢
  obtain ⟨B, HB⟩ : ∃ B, Hid (w.heap.size = B) := ⟨_, rfl⟩
  rw [HB.out] at htx hgl ⊢
  refine (put64_any w1 w1 _ 0 [] P _ (by first | rfl | omega) (by omega) rfl (by omega) (own_empty w1)).mono ?_
  rintro e w2 ⟨v2, rfl, o2⟩
  have t2 := (htx.kept o2.2 (by simp)).c1
  go_wp2_with fail
  refine (put32_any w1 w2 _ (0 + 8) ([] ++ beK 8 P) T _ (by first | rfl | omega) (by omega) (by simp [beK_length]) (by omega) o2).mono ?_
  rintro e w3 ⟨v3, rfl, o3⟩
  have t3 := (htx.kept o3.2 (by simp)).c2
  go_wp2_with fail
  refine (put8_any w1 w3 _ (0 + 8 + 4) ([] ++ beK 8 P ++ beK 4 T) U _ (by first | rfl | omega) (by omega) (by simp [beK_length]) (by omega) o3).mono ?_
  rintro e w4 ⟨v4, rfl, o4⟩
  replace o4 : Own w1 w4 v4 13 (arr (stampL P T U)).toList := own_len o4 rfl
  obtain ⟨g4, c4, rfl, b4, hg4, -⟩ := own_at o4 (by omega) (stampL_length P T U)
  have T4 := hidI (htx.kept o4.2 (by simp))
  have r4 := hg.kept (f1.trans o4.2) (by simp)
  have F4 := f1.trans o4.2
  have HgB : Hid (g ≠ B) := hidI (by omega)
  clear t2 t3 o2 o3 htx f1 o4
  obtain ⟨dp, hdp, HDP⟩ : ∃ dp : Option Addr, (if c' = M then some (⟨g, o, none⟩ : Addr) else some ⟨g, o + M, none⟩) = dp ∧ Hid (0 < 64 - M → dp = some ⟨g, o + M, none⟩) := ⟨_, rfl, hidI (fun h => by rw [if_neg (by omega)])⟩
  go_wp2_with (first
    | (refine wp_copyB rfl _ _ rfl g o _ 64 c' _ 13 c4 c p (stampL P T U) rfl rfl r4 (by rw [stampL_length]; rfl) (fun _ => rfl) b4 (by rw [stampL_length]; omega) ?_; intro w5 r5 f5; have t5 := (T4.out.kept f5 (by have h := HgB.out; simp; exact h.symm)).c2)
    | (refine wp_clearB rfl _ rfl dp g (o + M) (64 - M) _ c _ rfl r5 HDP.out (by rw [over_length _ _ _ (by rw [stampL_length]; omega)]; have h := HM.out; omega) ?_; intro w6 r6 f6))
  refine bodyPost_end (results_none Tryz.results229 _ _ _) rfl ⟨rfl, ?_, (F4.mono (M := [g]) (fun _ _ e => nomatch e)).trans (f5.trans f6)⟩
  have h := HM.out
  rw [h, show 51 - U = 64 - M by omega]
  exact r6

/-- A first block with one sector written. -/
def blk1 (T : Nat) (lb : List UInt8) : List UInt8 := stampL 1 T lb.length ++ lb ++ zs (51 - lb.length) ++ zs 448
theorem blk1_length (T : Nat) (lb : List UInt8) (h : lb.length ≤ 51) : (blk1 T lb).length = 512 := by simp [blk1, stampL_length, zs_length]; omega
theorem over_zs (p : List UInt8) (off m : Nat) (hz : (p.drop off).take m = zs m) : over p off (zs m) = p := by
  unfold over
  rw [zs_length, ← hz]
  have e1 : p.drop (off + m) = (p.drop off).drop m := by rw [List.drop_drop]
  rw [e1, List.take_append_drop, List.take_append_drop]
theorem blk1_zero (T : Nat) (lb : List UInt8) (h : lb.length ≤ 51) (j : Nat) (h0 : 1 ≤ j) (h1 : j < 8) : over (blk1 T lb) (j * 64) (zs 64) = blk1 T lb := by
  refine over_zs _ _ _ ?_
  have e : (blk1 T lb).drop (j * 64) = (zs 448).drop (j * 64 - 64) := by
    unfold blk1
    rw [List.drop_append]
    have hl : (stampL 1 T lb.length ++ lb ++ zs (51 - lb.length)).length = 64 := by simp [stampL_length, zs_length]; omega
    rw [hl, List.drop_eq_nil_of_le (by rw [hl]; omega)]
    rfl
  rw [e]
  unfold zs
  rw [List.drop_replicate, List.take_replicate]
  congr 1
  omega
theorem blk1_made (T : Nat) (lb : List UInt8) (h : lb.length ≤ 51) : over (over (over (zs 512) 13 lb) 0 (stampL 1 T lb.length)) (0 + (13 + lb.length)) (zs (51 - lb.length)) = blk1 T lb := by
  have e1 : over (zs 512) 13 lb = zs 13 ++ (lb ++ zs (499 - lb.length)) := by
    unfold over zs
    rw [List.take_replicate, List.drop_replicate, show min 13 512 = 13 from rfl, show 512 - (13 + lb.length) = 499 - lb.length by omega]
  have e2 : over (zs 13 ++ (lb ++ zs (499 - lb.length))) 0 (stampL 1 T lb.length) = stampL 1 T lb.length ++ (lb ++ zs (499 - lb.length)) := by
    unfold over
    rw [List.take_zero, List.nil_append, stampL_length, Nat.zero_add, List.drop_left' (zs_length 13)]
  rw [e1, e2]
  unfold over blk1
  have hl : (stampL 1 T lb.length ++ lb).length = 13 + lb.length := by simp [stampL_length]
  rw [Nat.zero_add, ← List.append_assoc, ← List.append_assoc, List.take_left' hl, zs_length, List.drop_append, hl, List.drop_eq_nil_of_le (by rw [hl]; omega)]
  unfold zs
  rw [List.drop_replicate, show 499 - lb.length - (13 + lb.length + (51 - lb.length) - (13 + lb.length)) = 448 by omega, List.nil_append]

set_option maxHeartbeats 1000000 in
set_option maxRecDepth 100000 in
theorem laid_one (w : World) (p : Nat) (x : Lg) (hx : LBox w p x) (gb cb n T : Nat) (lb : List UInt8) (hl : lb.length = n) (hn0 : 1 ≤ n) (hn : n ≤ 50) (hcb : n ≤ cb) (hb : BytesAt w (some ⟨gb, 0, none⟩) lb) (e1 : x.fin = (n : Int) + 1) (e2 : x.from' = 1) (e3 : x.by' = .slice (some ⟨gb, 0, none⟩) n cb) (e4 : x.turn = (T : Int)) (hT : T < 2147483648) :
    Calls Tryz.prog 184 #[.pointer (some ⟨p, 0, none⟩), .int .i64 1] w fun e w' => ∃ g, e = .returned (.tuple #[.slice (some ⟨g, 0, none⟩) 512 512, .int .i64 0]) ∧ RowB w' g 512 (blk1 T lb) ∧ w.heap.size ≤ g ∧ Fr [] w w' := by
  have HL : Hid (lb.length = n) := hl
  have hpl := hx.lt
  have HX := hidI hx
  have c6 := hx.c6
  have c7 := hx.c7
  have c8 := hx.c8
  have c3 := hx.c3
  rw [e1] at c6
  rw [e2] at c8
  rw [e3] at c7
  rw [e4] at c3
  have HC : Hid (∀ w', Fr [] w w' → w'.cell? ⟨p, 6, none⟩ = some (.int .i64 ((n : Int) + 1)) ∧ w'.cell? ⟨p, 7, none⟩ = some (.slice (some ⟨gb, 0, none⟩) n cb) ∧ w'.cell? ⟨p, 8, none⟩ = some (.int .i64 1) ∧ w'.cell? ⟨p, 3, none⟩ = some (.int .i64 (T : Int))) := hidI (fun w' f => by
    have k := World.cell?_of_block (w := w) (w' := w') (a := ⟨p, 6, none⟩) (f.block p hpl (by simp))
    have k7 := World.cell?_of_block (w := w) (w' := w') (a := ⟨p, 7, none⟩) (f.block p hpl (by simp))
    have k8 := World.cell?_of_block (w := w) (w' := w') (a := ⟨p, 8, none⟩) (f.block p hpl (by simp))
    have k3 := World.cell?_of_block (w := w) (w' := w') (a := ⟨p, 3, none⟩) (f.block p hpl (by simp))
    exact ⟨k.trans c6, k7.trans c7, k8.trans c8, k3.trans c3⟩)
  clear c6 c7 c8 c3 hl hx e1 e2 e3 e4
  go_enter Tryz.func184, Tryz.ntmps184
  go_wp2_with (first
    | (refine wp_make rfl _ _ rfl 512 rfl rfl (by omega) ?_; intro w1 g hg1 b1 f1)
    | (go_at_call 183; refine (inBlock_any _ 0 (by omega)).mono ?_; rintro e w1 ⟨rfl, rfl⟩))
  have F1 := f1
  go_loopw [1, 9] (fun pl lf wr => ∃ j : Nat, j ≤ 8 ∧ pl = .int .i64 (((51 * j : Nat) : Int) + 1) ∧ lf = .int .i64 (408 - 51 * (j : Int)) ∧ RowB wr g 512 (if j = 0 then zs 512 else blk1 T lb) ∧ Fr [g] w1 wr) (fun _ lf _ => (intOf lf).toNat)
  case atStart => exact ⟨0, by omega, rfl, rfl, b1.row, Fr.refl _ _⟩
  case round =>
    obtain ⟨j, hj, rfl, rfl, rw', fr⟩ := hrel
    have fw : Fr [] w wr := F1.then fr (fun i hi hm => by simp at hm; omega)
    obtain ⟨c6, c7, c8, c3⟩ := HC.out wr fw
    by_cases hlt : j < 8
    · have hpos : (0 : Int) < 408 - 51 * (j : Int) := by omega
      have hm : (51 * j) % 51 = 0 := by omega
      have hd : 51 * j / 51 % 8 = j := by omega
      by_cases h0 : j = 0
      · subst h0
        rw [if_pos rfl] at rw'
        have hgt : ¬ ((n : Int) + 1) < 1 := by omega
        have hs : Calls Tryz.prog 225 #[.slice (some ⟨g, 0, none⟩) 512 512, .int .i64 1] wr fun e w' => e = .returned (.slice (some ⟨g, 0, none⟩) 64 512) ∧ w' = wr := sectorOf_any wr g 512 0 (by omega) (by omega)
        have hi : Calls Tryz.prog 224 #[.int .i64 1] wr fun e w' => e = .returned (.int .i64 0) ∧ w' = wr := inSector_any wr 0 (by omega)
        have hb' := hb.kept fw (by simp)
        have hn' : (n : Int) ≤ cb := by omega
        rw [show ((51 * 0 : Nat) : Int) + 1 = 1 from rfl, show (408 : Int) - 51 * ((0 : Nat) : Int) = 408 from rfl]
        go_wp2_with (first
          | (go_at_call 225; refine hs.mono ?_; rintro e wr ⟨rfl, rfl⟩)
          | (go_at_call 224; refine hi.mono ?_; rintro e wr ⟨rfl, rfl⟩))
        have w13 : IntKind.i64.wrap 13 = 13 := rfl
        have w00 : IntKind.i64.wrap 0 = 0 := rfl
        go_region_law ((refine step_copyB (by rfl) _ _ (by rfl) g 13 _ 51 _ (some ⟨gb, 0, none⟩) n _ 512 (zs 512) lb rfl rfl rw' (by rw [HL.out]; exact (Nat.min_eq_left (by omega)).symm) (fun _ => rfl) hb' (by rw [HL.out, zs_length]; omega) ?_; intro w5 r5 f5))
        all_goals
          have fw5 : Fr [] w w5 := fw.then ((Fr.refl [g] wr).drew.trans f5) (fun i hi hm => by simp at hm; omega)
          have c35 := (HC.out w5 fw5).2.2.2
          have hwU := wrapI (lb.length : Int) (by rw [HL.out]; omega) (by rw [HL.out]; omega)
          clear c6 c7 c8 c3 hs hi
          go_wp2_with fail
          refine (seal_any w5 g 512 0 512 _ r5 1 T lb.length (by omega) (by omega) (by rw [HL.out]; omega) (by rw [over_length _ _ _ (by rw [HL.out, zs_length]; omega), zs_length]; omega) (by omega)).mono ?_
          rintro e w6 ⟨rfl, r6, f6⟩
          rw [blk1_made T lb (by rw [HL.out]; omega)] at r6
          go_wp2_with fail
          exact ⟨⟨1, by omega, rfl, rfl, by rw [if_neg (by omega)]; exact r6, fr.trans (((Fr.refl [g] wr).drew.trans f5).trans f6)⟩, by simp [intOf]⟩
      · rw [if_neg h0] at rw'
        have hgt : ((n : Int) + 1) < ((51 * j : Nat) : Int) + 1 := by omega
        have hs := sectorOf_any wr g 512 (51 * j) (by omega) (by omega)
        rw [hd] at hs
        have hi := inSector_any wr (51 * j) (by omega)
        rw [hm] at hi
        clear hm hd
        go_wp2_with (first
          | (go_at_call 225; refine hs.mono ?_; rintro e wr ⟨rfl, rfl⟩)
          | (go_at_call 224; refine hi.mono ?_; rintro e wr ⟨rfl, rfl⟩)
          | (refine wp_clearB rfl _ rfl _ g (j * 64) 64 _ 512 _ rfl rw' (fun _ => rfl) (by rw [blk1_length T lb (by rw [HL.out]; omega)]; omega) ?_; intro w6 r6 f6))
        rw [blk1_zero T lb (by rw [HL.out]; omega) j (by omega) hlt] at r6
        exact ⟨⟨j + 1, by omega, by go_num, by go_num, by rw [if_neg (by omega)]; exact r6, fr.trans f6⟩, by simp [intOf]; omega⟩
    · obtain rfl : j = 8 := by omega
      rw [if_neg (by omega)] at rw'
      go_wp2
      go_ret2
      exact ⟨g, rfl, rw', hg1, fw⟩

end Go.Proofs.YtopaeomjndblkaaGreat
