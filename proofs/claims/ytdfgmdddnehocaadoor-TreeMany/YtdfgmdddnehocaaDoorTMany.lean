/-
  TreeMany: the walk.
-/
import Derived.Test.YtdfgmdddnehocaaDoorTPick
import Derived.Test.YtdfgmdddnehocaaDoorTManyM
namespace Go.Proofs.YtdfgmdddnehocaaDoor
open Go.RowKit Go.Maps Go.Lib

theorem many_step (i : Nat) (h : 2 ≤ i) : manyRow (i + 1) = manyRow i ++ [bComm] := by
  unfold manyRow
  rw [show i + 1 - 2 = (i - 2) + 1 by omega, List.replicate_succ']
  rfl
theorem deep_step (i : Nat) : deepRow (i + 1) = deepRow i ++ [bElem (i : Int)] := by
  unfold deepRow
  rw [List.range_succ, List.map_append]
  rfl
theorem xs_step (N i : Nat) (h : i < N) : (List.replicate i (120 : UInt8) ++ List.replicate (N - i) 0).set i 120 = List.replicate (i + 1) 120 ++ List.replicate (N - (i + 1)) 0 := by
  rw [List.set_append_right _ _ (by simp), List.length_replicate, Nat.sub_self, show N - i = (N - (i + 1)) + 1 by omega, List.replicate_succ, List.set_cons_zero, List.replicate_succ', List.append_assoc]
  rfl
theorem sane_of (t : List Nd) (h : ∀ n ∈ t, n.kind < 256 ∧ (-9223372036854775808 ≤ n.parent ∧ n.parent ≤ 9223372036854775807) ∧ n.name.size < 9223372036854775808 ∧ n.value.size < 9223372036854775808) : Sane t := fun i hi => by
  have := h (nth t i) (by rw [nth_lt hi]; exact List.getElem_mem _)
  exact this
theorem many_sane (n : Nat) : Sane (manyRow n) := sane_of _ fun x hx => by
  unfold manyRow at hx
  rcases List.mem_cons.1 hx with rfl | hx
  · exact ⟨by decide, by decide, by decide, by decide⟩
  · rcases List.mem_cons.1 hx with rfl | hx
    · exact ⟨by decide, by decide, by decide, by decide⟩
    · obtain rfl := (List.mem_replicate.1 hx).2
      exact ⟨by decide, by decide, by decide, by decide⟩
theorem deep_sane (d : Nat) (hd : d ≤ 1000) : Sane (deepRow d) := sane_of _ fun x hx => by
  unfold deepRow at hx
  rcases List.mem_cons.1 hx with rfl | hx
  · exact ⟨by decide, by decide, by decide, by decide⟩
  · obtain ⟨i, hi, rfl⟩ := List.mem_map.1 hx
    have := List.mem_range.1 hi
    exact ⟨by show 2 < 256; omega, ⟨by show -9223372036854775808 ≤ (i : Int); omega, by show (i : Int) ≤ 9223372036854775807; omega⟩, by show 1 < 9223372036854775808; omega, by show 0 < 9223372036854775808; omega⟩
theorem long_sane (v : ByteArray) (hv : v.size ≤ 1000000) : Sane (longRow v) := sane_of _ fun x hx => by
  unfold longRow at hx
  rcases List.mem_cons.1 hx with rfl | hx
  · exact ⟨by decide, by decide, by decide, by decide⟩
  · rcases List.mem_cons.1 hx with rfl | hx
    · exact ⟨by decide, by decide, by decide, by decide⟩
    · rcases List.mem_cons.1 hx with rfl | hx
      · exact ⟨by show 4 < 256; omega, ⟨by show -9223372036854775808 ≤ (1 : Int); omega, by show (1 : Int) ≤ 9223372036854775807; omega⟩, by show 0 < 9223372036854775808; omega, by show v.size < _; omega⟩
      · cases hx

set_option maxHeartbeats 40000000 in
set_option maxRecDepth 100000 in
theorem many_law (w : World) (L : LaidW w) (x y z : Int) (hx : (Lit.int .i64 x).wf = true) (hy : (Lit.int .i64 y).wf = true) (hz : (Lit.int .i64 z).wf = true) :
    Calls Tryd.prog 6 #[.int .i64 x, .int .i64 y, .int .i64 z] w fun e w' => e = .returned (.bool true) ∧ Fr [] w w' := by
  have HL := Hid.mk L
  have c1 := Hid.mk (fun w' => pick_any w' x 3 hx (by decide) (by decide))
  have c2 := Hid.mk (fun w' => pick_any w' y 3 hy (by decide) (by decide))
  have c3 := Hid.mk (fun w' => pick_any w' z 3 hz (by decide) (by decide))
  obtain ⟨p1, h1⟩ : ∃ p : Nat, x % 3 = (p : Int) := ⟨(x % 3).toNat, by omega⟩
  obtain ⟨p2, h2⟩ : ∃ p : Nat, y % 3 = (p : Int) := ⟨(y % 3).toNat, by omega⟩
  obtain ⟨p3, h3⟩ : ∃ p : Nat, z % 3 = (p : Int) := ⟨(z % 3).toNat, by omega⟩
  have b1 : p1 < 3 := by omega
  have b2 : p2 < 3 := by omega
  have b3 : p3 < 3 := by omega
  rw [h1] at c1
  rw [h2] at c2
  rw [h3] at c3
  clear L hx hy hz h1 h2 h3
  go_enter Tryd.func6, Tryd.ntmps6
  go_wp2_with (first
    | (go_at_call 8; refine (awake_any _ HL.out).mono ?_; rintro e w1 ⟨rfl, f1⟩)
    | (go_at_call 21; refine (c1.out _).mono ?_; rintro e w2 ⟨rfl, h⟩; have h' := h.symm; subst h')
    | go_in)
  have n0 : Nodes w (w1.alloc (.cells #[.int .u8 1, .string ⟨#[]⟩, .string ⟨#[]⟩, .int .i64 (-1), .int .u8 2, .string ⟨#[97]⟩, .string ⟨#[]⟩, .int .i64 0] 36)) (.slice (some ⟨w1.heap.size, 0, none⟩) 2 2) (manyRow 2) := Nodes.new w1 f1.size (manyRow 2) 2 rfl (by unfold maxLen; omega) _ rfl
  have f2 := f1.alloc (.cells #[.int .u8 1, .string ⟨#[]⟩, .string ⟨#[]⟩, .int .i64 (-1), .int .u8 2, .string ⟨#[97]⟩, .string ⟨#[]⟩, .int .i64 0] 36)
  go_loopw [8, 9] (fun s8 s9 wr => ∃ i : Nat, s9 = .int .i64 (i : Int) ∧ 2 ≤ i ∧ i ≤ 16383 + p1 ∧ Hid (Nodes w wr s8 (manyRow i)) ∧ Hid (Fr [] w wr)) (fun _ s9 _ => 16383 + p1 - (RowKit.intOf s9).toNat)
  case atStart => exact ⟨2, rfl, Nat.le_refl _, by omega, n0, f2⟩
  case round =>
    obtain ⟨i, rfl, h2i, hiN, hNd, frh⟩ := hrel
    by_cases hlt : i < 16383 + p1
    · have hlt' : (i : Int) < 16383 + (p1 : Int) := by omega
      have hlen := many_len i h2i
      have HM := Hid.mk (many_step i h2i)
      obtain ⟨ad, cap, rfl, _, _, _⟩ := hNd.out.shape
      rw [hlen]
      rw [hlen] at hNd
      go_wp2_with (first
        | (refine wp_appN rfl _ _ rfl w _ (manyRow i) rfl (hNd.out.kept0 ((Fr.refl _ _).alloc _)) (by have := frh.out.size; simp; omega) wr.heap.size 0 1 1 [bComm] rfl (by decide) rfl (nodes_of_cells (heap_alloc_new _ _) rfl) (by omega) (frh.out.alloc _) ?_; intro v' w' hN' f')
        | go_in)
      exact ⟨⟨i + 1, by go_num, by omega, by omega, by show Nodes _ _ _ (manyRow (i + 1)); rw [HM.out]; exact hN', f'⟩, by simp [RowKit.intOf]; omega⟩
    · obtain rfl : i = 16383 + p1 := by omega
      have hlt' : ¬ (((16383 + p1 : Nat)) : Int) < 16383 + (p1 : Int) := by omega
      obtain ⟨ad, cap, rfl, _, hAt, _⟩ := hNd.out.shape
      have hJ := many_judged (16383 + p1) h2i
      have cC := Hid.mk (check_any wr (HL.out.kept frh.out) ad cap _ (manyRow (16383 + p1)) rfl hAt (many_sane _))
      rw [show oneB (manyRow (16383 + p1)) = (decide (knd (manyRow (16383 + p1)) 0 = 1) && (decide (tops (manyRow (16383 + p1)) = 1) && decide (elems (manyRow (16383 + p1)) = 1))) from rfl, hJ] at cC
      have hcast : (((16383 + p1 : Nat)) : Int) = 16383 + (p1 : Int) := by omega
      clear hJ hAt hNd
      by_cases q1 : p1 ≤ 1
      · rw [if_pos (by omega)] at cC
        have hq : (16383 : Int) + (p1 : Int) ≤ 16384 := by omega
        have hq' : ¬ (16384 : Int) < 16383 + (p1 : Int) := by omega
        go_wp2_with (first
          | (go_at_call 10; refine cC.out.mono ?_; rintro e w3 ⟨rfl, f3⟩)
          | (go_at_call 21; refine (c2.out _).mono ?_; rintro e w4 ⟨rfl, h⟩; have h' := h.symm; subst h')
          | go_in)
        have n3 : Nodes w (w3.alloc (.cells #[.int .u8 1, .string ⟨#[]⟩, .string ⟨#[]⟩, .int .i64 (-1)] 36)) (.slice (some ⟨w3.heap.size, 0, none⟩) 1 1) (deepRow 0) := Nodes.new w3 (frh.out.trans f3).size (deepRow 0) 1 rfl (by unfold maxLen; omega) _ rfl
        have f4 := (frh.out.trans f3).alloc (.cells #[.int .u8 1, .string ⟨#[]⟩, .string ⟨#[]⟩, .int .i64 (-1)] 36)
        clear cC hq hq' hcast q1 frh hlt
        go_loopw [8, 12] (fun s8 s12 wr => ∃ i : Nat, s12 = .int .i64 (i : Int) ∧ i ≤ 59 + p2 ∧ Hid (Nodes w wr s8 (deepRow i)) ∧ Hid (Fr [] w wr)) (fun _ s12 _ => 59 + p2 - (RowKit.intOf s12).toNat)
        case atStart => exact ⟨0, rfl, by omega, n3, f4⟩
        case round =>
          obtain ⟨i, rfl, hiN, hNd, frh⟩ := hrel
          clear n3 f4
          by_cases hlt : i < 59 + p2
          · have hlt' : (i : Int) < 59 + (p2 : Int) := by omega
            have hlen := deep_len i
            have HM := Hid.mk (deep_step i)
            obtain ⟨ad2, cap2, rfl, _, _, _⟩ := hNd.out.shape
            rw [hlen]
            rw [hlen] at hNd
            go_wp2_with (first
              | (refine wp_appN rfl _ _ rfl w _ (deepRow i) rfl (hNd.out.kept0 ((Fr.refl _ _).alloc _)) (by have := frh.out.size; simp; omega) wr.heap.size 0 1 1 [bElem (i : Int)] rfl (by decide) rfl (nodes_of_cells (heap_alloc_new _ _) rfl) (by omega) (frh.out.alloc _) ?_; intro v' w' hN' f')
              | go_in)
            exact ⟨⟨i + 1, by go_num, by omega, by show Nodes _ _ _ (deepRow (i + 1)); rw [HM.out]; exact hN', f'⟩, by simp [RowKit.intOf]; omega⟩
          · obtain rfl : i = 59 + p2 := by omega
            have hlt' : ¬ (((59 + p2 : Nat)) : Int) < 59 + (p2 : Int) := by omega
            obtain ⟨ad2, cap2, rfl, _, hAt, _⟩ := hNd.out.shape
            have hJ := deep_judged (59 + p2) (by omega) (by omega)
            have cD := Hid.mk (check_any wr (HL.out.kept frh.out) ad2 cap2 _ (deepRow (59 + p2)) rfl hAt (deep_sane _ (by omega)))
            rw [show oneB (deepRow (59 + p2)) = (decide (knd (deepRow (59 + p2)) 0 = 1) && (decide (tops (deepRow (59 + p2)) = 1) && decide (elems (deepRow (59 + p2)) = 1))) from rfl, hJ] at cD
            have hcast : (((59 + p2 : Nat)) : Int) = 59 + (p2 : Int) := by omega
            clear hJ hAt hNd
            by_cases q2 : p2 ≤ 1
            · rw [if_pos (by omega)] at cD
              have hq : (59 : Int) + (p2 : Int) ≤ 60 := by omega
              have hq' : ¬ (60 : Int) < 59 + (p2 : Int) := by omega
              go_wp2_with (first
                | (go_at_call 10; refine cD.out.mono ?_; rintro e w5 ⟨rfl, f5⟩)
                | (go_at_call 21; refine (c3.out _).mono ?_; rintro e w6 ⟨rfl, h⟩; have h' := h.symm; subst h')
                | (refine wp_make rfl _ _ rfl (65535 + p3) (by simp [Act.eval]) (by simp [Act.eval]) (by omega) ?_; intro w7 gb hgb hBk f7)
                | go_in)
              have f8 := (frh.out.trans f5).trans f7
              have frg : Hid (w.heap.size ≤ _) := (frh.out.trans f5).size
              clear cD hq hq' hcast q2 frh hlt
              have HB0 : Hid (Blk w7 gb (List.replicate 0 120 ++ List.replicate (65535 + p3 - 0) 0)) := hBk
              clear hBk
              go_loopw [14] (fun s14 wr => ∃ i : Nat, s14 = .int .i64 (i : Int) ∧ i ≤ 65535 + p3 ∧ Hid (Blk wr gb (List.replicate i 120 ++ List.replicate (65535 + p3 - i) 0)) ∧ Hid (Fr [] w wr)) (fun s14 _ => 65535 + p3 - (RowKit.intOf s14).toNat)
              case atStart => exact ⟨0, rfl, by omega, HB0, f8⟩
              case round =>
                obtain ⟨i, rfl, hiN, hB, frh⟩ := hrel
                have hgw : w.heap.size ≤ gb := Nat.le_trans (frg.out) hgb
                clear HB0 f8
                have hi0 : (0 : Int) ≤ (i : Int) := by omega
                by_cases hlt : i < 65535 + p3
                · have hlt' : (i : Int) < ((65535 + p3 : Nat) : Int) := by omega
                  have cB := hB.out.cell i (by simp; omega)
                  have zB := hB.out.frozen i
                  have sB := Hid.mk (hB.out.set i 120)
                  have HST := Hid.mk (xs_step (65535 + p3) i hlt)
                  generalize (byteAt (List.replicate i 120 ++ List.replicate (65535 + p3 - i) 0) i).toNat = old at cB
                  go_wp2
                  exact ⟨⟨i + 1, by go_num, by omega, by have := sB.out; rw [HST.out] at this; exact this, (frh.out.setCell _ _ (fun h => by have h : gb < w.heap.size := h; omega))⟩, by simp [RowKit.intOf]; omega⟩
                · obtain rfl : i = 65535 + p3 := by omega
                  have hlt' : ¬ (((65535 + p3 : Nat)) : Int) < ((65535 + p3 : Nat) : Int) := by omega
                  have hB2 := hB.out
                  rw [Nat.sub_self, show List.replicate 0 (0 : UInt8) = [] from rfl, List.append_nil] at hB2
                  have HB2 := Hid.mk hB2
                  have hVsz : (mkS (List.replicate (65535 + p3) (120 : UInt8))).size = 65535 + p3 := by rw [← bl_length, bl_mkS, List.length_replicate]
                  have hJ := long_judged (mkS (List.replicate (65535 + p3) 120)) (65535 + p3) (bl_mkS _) (by omega)
                  have HV := Hid.mk (long_sane (mkS (List.replicate (65535 + p3) 120)) (by rw [hVsz]; omega))
                  obtain ⟨V, hV⟩ : ∃ V, mkS (List.replicate (65535 + p3) (120 : UInt8)) = V := ⟨_, rfl⟩
                  have HVV := Hid.mk hV
                  rw [hV] at hJ HV
                  clear hB hB2 hVsz hV
                  by_cases q3 : p3 ≤ 1
                  · rw [if_pos (by omega)] at hJ
                    have HJ : Hid (judged (longRow V) (oneB (longRow V)) = 0) := hJ
                    have hq : ((65535 + p3 : Nat) : Int) ≤ 65536 := by omega
                    clear hJ
                    go_wp2_with (first
                      | (refine wp_conv rfl _ rfl (List.replicate (65535 + p3) 120) (some ⟨gb, 0, none⟩) (65535 + p3) (65535 + p3) rfl (by simp) HB2.out.bytes (fun _ => Or.inr ⟨gb, 0, rfl⟩) ?_; rw [HVV.out])
                      | (go_at_call 10; refine (check_some _ (HL.out.kept (frh.out.alloc _)) _ 0 3 (longRow V) (nodes_of_cells (heap_alloc_new _ _) rfl) HV.out).mono ?_; rw [HJ.out]; rintro e w9 ⟨rfl, f9⟩)
                      | go_in)
                    go_ret
                    first
                      | exact ⟨rfl, (frh.out.alloc _).trans f9⟩
                      | exact ⟨congrArg (fun b => Ending.returned (Value.bool b)) (show (!decide ((65535 : Int) + (p3 : Int) ≤ 65536)) = true by simp; omega), (frh.out.alloc _).trans f9⟩
                  · rw [if_neg (by omega)] at hJ
                    have HJ : Hid (judged (longRow V) (oneB (longRow V)) = 4) := hJ
                    have hq : ¬ ((65535 + p3 : Nat) : Int) ≤ 65536 := by omega
                    clear hJ
                    go_wp2_with (first
                      | (refine wp_conv rfl _ rfl (List.replicate (65535 + p3) 120) (some ⟨gb, 0, none⟩) (65535 + p3) (65535 + p3) rfl (by simp) HB2.out.bytes (fun _ => Or.inr ⟨gb, 0, rfl⟩) ?_; rw [HVV.out])
                      | (go_at_call 10; refine (check_some _ (HL.out.kept (frh.out.alloc _)) _ 0 3 (longRow V) (nodes_of_cells (heap_alloc_new _ _) rfl) HV.out).mono ?_; rw [HJ.out]; rintro e w9 ⟨rfl, f9⟩)
                      | go_in)
                    go_ret
                    first
                      | exact ⟨rfl, (frh.out.alloc _).trans f9⟩
                      | exact ⟨congrArg (fun b => Ending.returned (Value.bool b)) (show (!decide ((65535 : Int) + (p3 : Int) ≤ 65536)) = true by simp; omega), (frh.out.alloc _).trans f9⟩
            · rw [if_neg (by omega)] at cD
              have hq : ¬ (59 : Int) + (p2 : Int) ≤ 60 := by omega
              have hq' : (60 : Int) < 59 + (p2 : Int) := by omega
              go_wp2_with (first
                | (go_at_call 10; refine cD.out.mono ?_; rintro e w5 ⟨rfl, f5⟩)
                | (go_at_call 21; refine (c3.out _).mono ?_; rintro e w6 ⟨rfl, h⟩; have h' := h.symm; subst h')
                | (refine wp_make rfl _ _ rfl (65535 + p3) (by simp [Act.eval]) (by simp [Act.eval]) (by omega) ?_; intro w7 gb hgb hBk f7)
                | go_in)
              have f8 := (frh.out.trans f5).trans f7
              have frg : Hid (w.heap.size ≤ _) := (frh.out.trans f5).size
              clear cD hq hq' hcast q2 frh hlt
              have HB0 : Hid (Blk w7 gb (List.replicate 0 120 ++ List.replicate (65535 + p3 - 0) 0)) := hBk
              clear hBk
              go_loopw [14] (fun s14 wr => ∃ i : Nat, s14 = .int .i64 (i : Int) ∧ i ≤ 65535 + p3 ∧ Hid (Blk wr gb (List.replicate i 120 ++ List.replicate (65535 + p3 - i) 0)) ∧ Hid (Fr [] w wr)) (fun s14 _ => 65535 + p3 - (RowKit.intOf s14).toNat)
              case atStart => exact ⟨0, rfl, by omega, HB0, f8⟩
              case round =>
                obtain ⟨i, rfl, hiN, hB, frh⟩ := hrel
                have hgw : w.heap.size ≤ gb := Nat.le_trans (frg.out) hgb
                clear HB0 f8
                have hi0 : (0 : Int) ≤ (i : Int) := by omega
                by_cases hlt : i < 65535 + p3
                · have hlt' : (i : Int) < ((65535 + p3 : Nat) : Int) := by omega
                  have cB := hB.out.cell i (by simp; omega)
                  have zB := hB.out.frozen i
                  have sB := Hid.mk (hB.out.set i 120)
                  have HST := Hid.mk (xs_step (65535 + p3) i hlt)
                  generalize (byteAt (List.replicate i 120 ++ List.replicate (65535 + p3 - i) 0) i).toNat = old at cB
                  go_wp2
                  exact ⟨⟨i + 1, by go_num, by omega, by have := sB.out; rw [HST.out] at this; exact this, (frh.out.setCell _ _ (fun h => by have h : gb < w.heap.size := h; omega))⟩, by simp [RowKit.intOf]; omega⟩
                · obtain rfl : i = 65535 + p3 := by omega
                  have hlt' : ¬ (((65535 + p3 : Nat)) : Int) < ((65535 + p3 : Nat) : Int) := by omega
                  have hB2 := hB.out
                  rw [Nat.sub_self, show List.replicate 0 (0 : UInt8) = [] from rfl, List.append_nil] at hB2
                  have HB2 := Hid.mk hB2
                  have hVsz : (mkS (List.replicate (65535 + p3) (120 : UInt8))).size = 65535 + p3 := by rw [← bl_length, bl_mkS, List.length_replicate]
                  have hJ := long_judged (mkS (List.replicate (65535 + p3) 120)) (65535 + p3) (bl_mkS _) (by omega)
                  have HV := Hid.mk (long_sane (mkS (List.replicate (65535 + p3) 120)) (by rw [hVsz]; omega))
                  obtain ⟨V, hV⟩ : ∃ V, mkS (List.replicate (65535 + p3) (120 : UInt8)) = V := ⟨_, rfl⟩
                  have HVV := Hid.mk hV
                  rw [hV] at hJ HV
                  clear hB hB2 hVsz hV
                  by_cases q3 : p3 ≤ 1
                  · rw [if_pos (by omega)] at hJ
                    have HJ : Hid (judged (longRow V) (oneB (longRow V)) = 0) := hJ
                    have hq : ((65535 + p3 : Nat) : Int) ≤ 65536 := by omega
                    clear hJ
                    go_wp2_with (first
                      | (refine wp_conv rfl _ rfl (List.replicate (65535 + p3) 120) (some ⟨gb, 0, none⟩) (65535 + p3) (65535 + p3) rfl (by simp) HB2.out.bytes (fun _ => Or.inr ⟨gb, 0, rfl⟩) ?_; rw [HVV.out])
                      | (go_at_call 10; refine (check_some _ (HL.out.kept (frh.out.alloc _)) _ 0 3 (longRow V) (nodes_of_cells (heap_alloc_new _ _) rfl) HV.out).mono ?_; rw [HJ.out]; rintro e w9 ⟨rfl, f9⟩)
                      | go_in)
                    go_ret
                    first
                      | exact ⟨rfl, (frh.out.alloc _).trans f9⟩
                      | exact ⟨congrArg (fun b => Ending.returned (Value.bool b)) (show (!decide ((65535 : Int) + (p3 : Int) ≤ 65536)) = true by simp; omega), (frh.out.alloc _).trans f9⟩
                  · rw [if_neg (by omega)] at hJ
                    have HJ : Hid (judged (longRow V) (oneB (longRow V)) = 4) := hJ
                    have hq : ¬ ((65535 + p3 : Nat) : Int) ≤ 65536 := by omega
                    clear hJ
                    go_wp2_with (first
                      | (refine wp_conv rfl _ rfl (List.replicate (65535 + p3) 120) (some ⟨gb, 0, none⟩) (65535 + p3) (65535 + p3) rfl (by simp) HB2.out.bytes (fun _ => Or.inr ⟨gb, 0, rfl⟩) ?_; rw [HVV.out])
                      | (go_at_call 10; refine (check_some _ (HL.out.kept (frh.out.alloc _)) _ 0 3 (longRow V) (nodes_of_cells (heap_alloc_new _ _) rfl) HV.out).mono ?_; rw [HJ.out]; rintro e w9 ⟨rfl, f9⟩)
                      | go_in)
                    go_ret
                    first
                      | exact ⟨rfl, (frh.out.alloc _).trans f9⟩
                      | exact ⟨congrArg (fun b => Ending.returned (Value.bool b)) (show (!decide ((65535 : Int) + (p3 : Int) ≤ 65536)) = true by simp; omega), (frh.out.alloc _).trans f9⟩
      · rw [if_neg (by omega)] at cC
        have hq : ¬ (16383 : Int) + (p1 : Int) ≤ 16384 := by omega
        have hq' : (16384 : Int) < 16383 + (p1 : Int) := by omega
        go_wp2_with (first
          | (go_at_call 10; refine cC.out.mono ?_; rintro e w3 ⟨rfl, f3⟩)
          | (go_at_call 21; refine (c2.out _).mono ?_; rintro e w4 ⟨rfl, h⟩; have h' := h.symm; subst h')
          | go_in)
        have n3 : Nodes w (w3.alloc (.cells #[.int .u8 1, .string ⟨#[]⟩, .string ⟨#[]⟩, .int .i64 (-1)] 36)) (.slice (some ⟨w3.heap.size, 0, none⟩) 1 1) (deepRow 0) := Nodes.new w3 (frh.out.trans f3).size (deepRow 0) 1 rfl (by unfold maxLen; omega) _ rfl
        have f4 := (frh.out.trans f3).alloc (.cells #[.int .u8 1, .string ⟨#[]⟩, .string ⟨#[]⟩, .int .i64 (-1)] 36)
        clear cC hq hq' hcast q1 frh hlt
        go_loopw [8, 12] (fun s8 s12 wr => ∃ i : Nat, s12 = .int .i64 (i : Int) ∧ i ≤ 59 + p2 ∧ Hid (Nodes w wr s8 (deepRow i)) ∧ Hid (Fr [] w wr)) (fun _ s12 _ => 59 + p2 - (RowKit.intOf s12).toNat)
        case atStart => exact ⟨0, rfl, by omega, n3, f4⟩
        case round =>
          obtain ⟨i, rfl, hiN, hNd, frh⟩ := hrel
          clear n3 f4
          by_cases hlt : i < 59 + p2
          · have hlt' : (i : Int) < 59 + (p2 : Int) := by omega
            have hlen := deep_len i
            have HM := Hid.mk (deep_step i)
            obtain ⟨ad2, cap2, rfl, _, _, _⟩ := hNd.out.shape
            rw [hlen]
            rw [hlen] at hNd
            go_wp2_with (first
              | (refine wp_appN rfl _ _ rfl w _ (deepRow i) rfl (hNd.out.kept0 ((Fr.refl _ _).alloc _)) (by have := frh.out.size; simp; omega) wr.heap.size 0 1 1 [bElem (i : Int)] rfl (by decide) rfl (nodes_of_cells (heap_alloc_new _ _) rfl) (by omega) (frh.out.alloc _) ?_; intro v' w' hN' f')
              | go_in)
            exact ⟨⟨i + 1, by go_num, by omega, by show Nodes _ _ _ (deepRow (i + 1)); rw [HM.out]; exact hN', f'⟩, by simp [RowKit.intOf]; omega⟩
          · obtain rfl : i = 59 + p2 := by omega
            have hlt' : ¬ (((59 + p2 : Nat)) : Int) < 59 + (p2 : Int) := by omega
            obtain ⟨ad2, cap2, rfl, _, hAt, _⟩ := hNd.out.shape
            have hJ := deep_judged (59 + p2) (by omega) (by omega)
            have cD := Hid.mk (check_any wr (HL.out.kept frh.out) ad2 cap2 _ (deepRow (59 + p2)) rfl hAt (deep_sane _ (by omega)))
            rw [show oneB (deepRow (59 + p2)) = (decide (knd (deepRow (59 + p2)) 0 = 1) && (decide (tops (deepRow (59 + p2)) = 1) && decide (elems (deepRow (59 + p2)) = 1))) from rfl, hJ] at cD
            have hcast : (((59 + p2 : Nat)) : Int) = 59 + (p2 : Int) := by omega
            clear hJ hAt hNd
            by_cases q2 : p2 ≤ 1
            · rw [if_pos (by omega)] at cD
              have hq : (59 : Int) + (p2 : Int) ≤ 60 := by omega
              have hq' : ¬ (60 : Int) < 59 + (p2 : Int) := by omega
              go_wp2_with (first
                | (go_at_call 10; refine cD.out.mono ?_; rintro e w5 ⟨rfl, f5⟩)
                | (go_at_call 21; refine (c3.out _).mono ?_; rintro e w6 ⟨rfl, h⟩; have h' := h.symm; subst h')
                | (refine wp_make rfl _ _ rfl (65535 + p3) (by simp [Act.eval]) (by simp [Act.eval]) (by omega) ?_; intro w7 gb hgb hBk f7)
                | go_in)
              have f8 := (frh.out.trans f5).trans f7
              have frg : Hid (w.heap.size ≤ _) := (frh.out.trans f5).size
              clear cD hq hq' hcast q2 frh hlt
              have HB0 : Hid (Blk w7 gb (List.replicate 0 120 ++ List.replicate (65535 + p3 - 0) 0)) := hBk
              clear hBk
              go_loopw [14] (fun s14 wr => ∃ i : Nat, s14 = .int .i64 (i : Int) ∧ i ≤ 65535 + p3 ∧ Hid (Blk wr gb (List.replicate i 120 ++ List.replicate (65535 + p3 - i) 0)) ∧ Hid (Fr [] w wr)) (fun s14 _ => 65535 + p3 - (RowKit.intOf s14).toNat)
              case atStart => exact ⟨0, rfl, by omega, HB0, f8⟩
              case round =>
                obtain ⟨i, rfl, hiN, hB, frh⟩ := hrel
                have hgw : w.heap.size ≤ gb := Nat.le_trans (frg.out) hgb
                clear HB0 f8
                have hi0 : (0 : Int) ≤ (i : Int) := by omega
                by_cases hlt : i < 65535 + p3
                · have hlt' : (i : Int) < ((65535 + p3 : Nat) : Int) := by omega
                  have cB := hB.out.cell i (by simp; omega)
                  have zB := hB.out.frozen i
                  have sB := Hid.mk (hB.out.set i 120)
                  have HST := Hid.mk (xs_step (65535 + p3) i hlt)
                  generalize (byteAt (List.replicate i 120 ++ List.replicate (65535 + p3 - i) 0) i).toNat = old at cB
                  go_wp2
                  exact ⟨⟨i + 1, by go_num, by omega, by have := sB.out; rw [HST.out] at this; exact this, (frh.out.setCell _ _ (fun h => by have h : gb < w.heap.size := h; omega))⟩, by simp [RowKit.intOf]; omega⟩
                · obtain rfl : i = 65535 + p3 := by omega
                  have hlt' : ¬ (((65535 + p3 : Nat)) : Int) < ((65535 + p3 : Nat) : Int) := by omega
                  have hB2 := hB.out
                  rw [Nat.sub_self, show List.replicate 0 (0 : UInt8) = [] from rfl, List.append_nil] at hB2
                  have HB2 := Hid.mk hB2
                  have hVsz : (mkS (List.replicate (65535 + p3) (120 : UInt8))).size = 65535 + p3 := by rw [← bl_length, bl_mkS, List.length_replicate]
                  have hJ := long_judged (mkS (List.replicate (65535 + p3) 120)) (65535 + p3) (bl_mkS _) (by omega)
                  have HV := Hid.mk (long_sane (mkS (List.replicate (65535 + p3) 120)) (by rw [hVsz]; omega))
                  obtain ⟨V, hV⟩ : ∃ V, mkS (List.replicate (65535 + p3) (120 : UInt8)) = V := ⟨_, rfl⟩
                  have HVV := Hid.mk hV
                  rw [hV] at hJ HV
                  clear hB hB2 hVsz hV
                  by_cases q3 : p3 ≤ 1
                  · rw [if_pos (by omega)] at hJ
                    have HJ : Hid (judged (longRow V) (oneB (longRow V)) = 0) := hJ
                    have hq : ((65535 + p3 : Nat) : Int) ≤ 65536 := by omega
                    clear hJ
                    go_wp2_with (first
                      | (refine wp_conv rfl _ rfl (List.replicate (65535 + p3) 120) (some ⟨gb, 0, none⟩) (65535 + p3) (65535 + p3) rfl (by simp) HB2.out.bytes (fun _ => Or.inr ⟨gb, 0, rfl⟩) ?_; rw [HVV.out])
                      | (go_at_call 10; refine (check_some _ (HL.out.kept (frh.out.alloc _)) _ 0 3 (longRow V) (nodes_of_cells (heap_alloc_new _ _) rfl) HV.out).mono ?_; rw [HJ.out]; rintro e w9 ⟨rfl, f9⟩)
                      | go_in)
                    go_ret
                    first
                      | exact ⟨rfl, (frh.out.alloc _).trans f9⟩
                      | exact ⟨congrArg (fun b => Ending.returned (Value.bool b)) (show (!decide ((65535 : Int) + (p3 : Int) ≤ 65536)) = true by simp; omega), (frh.out.alloc _).trans f9⟩
                  · rw [if_neg (by omega)] at hJ
                    have HJ : Hid (judged (longRow V) (oneB (longRow V)) = 4) := hJ
                    have hq : ¬ ((65535 + p3 : Nat) : Int) ≤ 65536 := by omega
                    clear hJ
                    go_wp2_with (first
                      | (refine wp_conv rfl _ rfl (List.replicate (65535 + p3) 120) (some ⟨gb, 0, none⟩) (65535 + p3) (65535 + p3) rfl (by simp) HB2.out.bytes (fun _ => Or.inr ⟨gb, 0, rfl⟩) ?_; rw [HVV.out])
                      | (go_at_call 10; refine (check_some _ (HL.out.kept (frh.out.alloc _)) _ 0 3 (longRow V) (nodes_of_cells (heap_alloc_new _ _) rfl) HV.out).mono ?_; rw [HJ.out]; rintro e w9 ⟨rfl, f9⟩)
                      | go_in)
                    go_ret
                    first
                      | exact ⟨rfl, (frh.out.alloc _).trans f9⟩
                      | exact ⟨congrArg (fun b => Ending.returned (Value.bool b)) (show (!decide ((65535 : Int) + (p3 : Int) ≤ 65536)) = true by simp; omega), (frh.out.alloc _).trans f9⟩
            · rw [if_neg (by omega)] at cD
              have hq : ¬ (59 : Int) + (p2 : Int) ≤ 60 := by omega
              have hq' : (60 : Int) < 59 + (p2 : Int) := by omega
              go_wp2_with (first
                | (go_at_call 10; refine cD.out.mono ?_; rintro e w5 ⟨rfl, f5⟩)
                | (go_at_call 21; refine (c3.out _).mono ?_; rintro e w6 ⟨rfl, h⟩; have h' := h.symm; subst h')
                | (refine wp_make rfl _ _ rfl (65535 + p3) (by simp [Act.eval]) (by simp [Act.eval]) (by omega) ?_; intro w7 gb hgb hBk f7)
                | go_in)
              have f8 := (frh.out.trans f5).trans f7
              have frg : Hid (w.heap.size ≤ _) := (frh.out.trans f5).size
              clear cD hq hq' hcast q2 frh hlt
              have HB0 : Hid (Blk w7 gb (List.replicate 0 120 ++ List.replicate (65535 + p3 - 0) 0)) := hBk
              clear hBk
              go_loopw [14] (fun s14 wr => ∃ i : Nat, s14 = .int .i64 (i : Int) ∧ i ≤ 65535 + p3 ∧ Hid (Blk wr gb (List.replicate i 120 ++ List.replicate (65535 + p3 - i) 0)) ∧ Hid (Fr [] w wr)) (fun s14 _ => 65535 + p3 - (RowKit.intOf s14).toNat)
              case atStart => exact ⟨0, rfl, by omega, HB0, f8⟩
              case round =>
                obtain ⟨i, rfl, hiN, hB, frh⟩ := hrel
                have hgw : w.heap.size ≤ gb := Nat.le_trans (frg.out) hgb
                clear HB0 f8
                have hi0 : (0 : Int) ≤ (i : Int) := by omega
                by_cases hlt : i < 65535 + p3
                · have hlt' : (i : Int) < ((65535 + p3 : Nat) : Int) := by omega
                  have cB := hB.out.cell i (by simp; omega)
                  have zB := hB.out.frozen i
                  have sB := Hid.mk (hB.out.set i 120)
                  have HST := Hid.mk (xs_step (65535 + p3) i hlt)
                  generalize (byteAt (List.replicate i 120 ++ List.replicate (65535 + p3 - i) 0) i).toNat = old at cB
                  go_wp2
                  exact ⟨⟨i + 1, by go_num, by omega, by have := sB.out; rw [HST.out] at this; exact this, (frh.out.setCell _ _ (fun h => by have h : gb < w.heap.size := h; omega))⟩, by simp [RowKit.intOf]; omega⟩
                · obtain rfl : i = 65535 + p3 := by omega
                  have hlt' : ¬ (((65535 + p3 : Nat)) : Int) < ((65535 + p3 : Nat) : Int) := by omega
                  have hB2 := hB.out
                  rw [Nat.sub_self, show List.replicate 0 (0 : UInt8) = [] from rfl, List.append_nil] at hB2
                  have HB2 := Hid.mk hB2
                  have hVsz : (mkS (List.replicate (65535 + p3) (120 : UInt8))).size = 65535 + p3 := by rw [← bl_length, bl_mkS, List.length_replicate]
                  have hJ := long_judged (mkS (List.replicate (65535 + p3) 120)) (65535 + p3) (bl_mkS _) (by omega)
                  have HV := Hid.mk (long_sane (mkS (List.replicate (65535 + p3) 120)) (by rw [hVsz]; omega))
                  obtain ⟨V, hV⟩ : ∃ V, mkS (List.replicate (65535 + p3) (120 : UInt8)) = V := ⟨_, rfl⟩
                  have HVV := Hid.mk hV
                  rw [hV] at hJ HV
                  clear hB hB2 hVsz hV
                  by_cases q3 : p3 ≤ 1
                  · rw [if_pos (by omega)] at hJ
                    have HJ : Hid (judged (longRow V) (oneB (longRow V)) = 0) := hJ
                    have hq : ((65535 + p3 : Nat) : Int) ≤ 65536 := by omega
                    clear hJ
                    go_wp2_with (first
                      | (refine wp_conv rfl _ rfl (List.replicate (65535 + p3) 120) (some ⟨gb, 0, none⟩) (65535 + p3) (65535 + p3) rfl (by simp) HB2.out.bytes (fun _ => Or.inr ⟨gb, 0, rfl⟩) ?_; rw [HVV.out])
                      | (go_at_call 10; refine (check_some _ (HL.out.kept (frh.out.alloc _)) _ 0 3 (longRow V) (nodes_of_cells (heap_alloc_new _ _) rfl) HV.out).mono ?_; rw [HJ.out]; rintro e w9 ⟨rfl, f9⟩)
                      | go_in)
                    go_ret
                    first
                      | exact ⟨rfl, (frh.out.alloc _).trans f9⟩
                      | exact ⟨congrArg (fun b => Ending.returned (Value.bool b)) (show (!decide ((65535 : Int) + (p3 : Int) ≤ 65536)) = true by simp; omega), (frh.out.alloc _).trans f9⟩
                  · rw [if_neg (by omega)] at hJ
                    have HJ : Hid (judged (longRow V) (oneB (longRow V)) = 4) := hJ
                    have hq : ¬ ((65535 + p3 : Nat) : Int) ≤ 65536 := by omega
                    clear hJ
                    go_wp2_with (first
                      | (refine wp_conv rfl _ rfl (List.replicate (65535 + p3) 120) (some ⟨gb, 0, none⟩) (65535 + p3) (65535 + p3) rfl (by simp) HB2.out.bytes (fun _ => Or.inr ⟨gb, 0, rfl⟩) ?_; rw [HVV.out])
                      | (go_at_call 10; refine (check_some _ (HL.out.kept (frh.out.alloc _)) _ 0 3 (longRow V) (nodes_of_cells (heap_alloc_new _ _) rfl) HV.out).mono ?_; rw [HJ.out]; rintro e w9 ⟨rfl, f9⟩)
                      | go_in)
                    go_ret
                    first
                      | exact ⟨rfl, (frh.out.alloc _).trans f9⟩
                      | exact ⟨congrArg (fun b => Ending.returned (Value.bool b)) (show (!decide ((65535 : Int) + (p3 : Int) ≤ 65536)) = true by simp; omega), (frh.out.alloc _).trans f9⟩
end Go.Proofs.YtdfgmdddnehocaaDoor
