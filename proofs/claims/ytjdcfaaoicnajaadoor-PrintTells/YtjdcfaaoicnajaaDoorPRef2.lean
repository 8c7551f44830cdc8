/-
  The document's own answers: Escape, Quote: walked.
-/
import Derived.Test.YtjdcfaaoicnajaaDoorPRef
namespace Go.Proofs.YtjdcfaaoicnajaaDoor
open Go.RowKit Go.Maps Go.Lib

set_option maxHeartbeats 8000000 in
set_option maxRecDepth 100000 in
theorem refEscape_any (w : World) (s : ByteArray) (hs : s.size ≤ 1000000) :
    Calls Tryd.prog 15 #[.string s] w fun e w' => e = .returned (.string (mkS (escT s))) ∧ Fr [] w w' := by
  obtain ⟨n, hn⟩ : ∃ n, s.size = n := ⟨_, rfl⟩
  have HN := Hid.mk hn
  have HB := Hid.mk (show (bl s).length = n by rw [bl_length, hn])
  have HL := Hid.mk (show ∀ i, (escL inT ((bl s).take i)).length ≤ 6 * n from fun i => by
    have h1 := esc_long inT inT_len ((bl s).take i)
    have h2 : ((bl s).take i).length ≤ n := by rw [List.length_take, bl_length, hn]; omega
    omega)
  have hn1 : (s.size : Int) = (n : Int) := by omega
  have hn2 : (n : Int) ≤ 1000000 := by omega
  have hn3 : n ≤ 1000000 := by omega
  clear hs hn
  go_enter Tryd.func15, Tryd.ntmps15
  go_wp2_with go_in
  go_loopw [3, 4] (fun s3 s4 wr => ∃ (i : Nat) (av : Option Addr) (nv cv : Nat), i ≤ n ∧ s4 = .int .i64 (i : Int) ∧ s3 = .slice av nv cv ∧ Hid (BytesO w wr (.slice av nv cv) (escL inT ((bl s).take i))) ∧ Hid (Fr [] w wr)) (fun _ s4 _ => n - (RowKit.intOf s4).toNat)
  case atStart => exact ⟨0, none, 0, 0, by omega, rfl, rfl, by show BytesO _ _ _ []; exact BytesO.nil _ _, Fr.refl _ _⟩
  case round =>
    obtain ⟨i, av, nv, cv, hi, rfl, rfl, hO, hF⟩ := hrel
    have hi0 : (0 : Int) ≤ (i : Int) := by omega
    by_cases hlt : i < n
    · have hlt' : (i : Int) < (n : Int) := by omega
      have hix := run_idx s (i : Int) i rfl (by rw [HN.out]; exact hlt)
      have hst := esc_next inT (bl s) i (by rw [HB.out]; exact hlt)
      have hbd := Hid.mk (show (escL inT ((bl s).take i)).length + 6 ≤ 140737488355328 from by
        have := HL.out i
        omega)
      generalize byteAt (bl s) i = c at hix hst
      by_cases h38 : c = 38
      · subst h38
        rw [show inT 38 = [38, 97, 109, 112, 59] from rfl, if_neg (by simp)] at hst
        have HS := Hid.mk hst
        clear hst
        go_wp2_with (first
          | (refine wp_appStr rfl _ _ rfl w _ _ rfl hO.out ⟨#[38, 97, 109, 112, 59]⟩ rfl (Nat.le_trans (Nat.add_le_add_left (by decide) _) hbd.out) hF.out ?_; intro v' w' hO' f'; obtain ⟨ad', n', cap', rfl, _, _, _⟩ := hO'.shape')
          | go_in)
        exact ⟨⟨i + 1, ad', n', cap', by omega, by go_num, rfl, by show BytesO _ _ _ (escL inT ((bl s).take (i + 1))); rw [HS.out]; exact hO', f'⟩, by simp [RowKit.intOf]; omega⟩
      have g38 : (((c.toNat : Nat) : Int) == 38) = false := u8_ne (d := 38) h38
      by_cases h60 : c = 60
      · subst h60
        rw [show inT 60 = [38, 108, 116, 59] from rfl, if_neg (by simp)] at hst
        have HS := Hid.mk hst
        clear hst
        go_wp2_with (first
          | (refine wp_appStr rfl _ _ rfl w _ _ rfl hO.out ⟨#[38, 108, 116, 59]⟩ rfl (Nat.le_trans (Nat.add_le_add_left (by decide) _) hbd.out) hF.out ?_; intro v' w' hO' f'; obtain ⟨ad', n', cap', rfl, _, _, _⟩ := hO'.shape')
          | go_in)
        exact ⟨⟨i + 1, ad', n', cap', by omega, by go_num, rfl, by show BytesO _ _ _ (escL inT ((bl s).take (i + 1))); rw [HS.out]; exact hO', f'⟩, by simp [RowKit.intOf]; omega⟩
      have g60 : (((c.toNat : Nat) : Int) == 60) = false := u8_ne (d := 60) h60
      by_cases h62 : c = 62
      · subst h62
        rw [show inT 62 = [38, 103, 116, 59] from rfl, if_neg (by simp)] at hst
        have HS := Hid.mk hst
        clear hst
        go_wp2_with (first
          | (refine wp_appStr rfl _ _ rfl w _ _ rfl hO.out ⟨#[38, 103, 116, 59]⟩ rfl (Nat.le_trans (Nat.add_le_add_left (by decide) _) hbd.out) hF.out ?_; intro v' w' hO' f'; obtain ⟨ad', n', cap', rfl, _, _, _⟩ := hO'.shape')
          | go_in)
        exact ⟨⟨i + 1, ad', n', cap', by omega, by go_num, rfl, by show BytesO _ _ _ (escL inT ((bl s).take (i + 1))); rw [HS.out]; exact hO', f'⟩, by simp [RowKit.intOf]; omega⟩
      have g62 : (((c.toNat : Nat) : Int) == 62) = false := u8_ne (d := 62) h62
      by_cases h13 : c = 13
      · subst h13
        rw [show inT 13 = [38, 35, 49, 51, 59] from rfl, if_neg (by simp)] at hst
        have HS := Hid.mk hst
        clear hst
        go_wp2_with (first
          | (refine wp_appStr rfl _ _ rfl w _ _ rfl hO.out ⟨#[38, 35, 49, 51, 59]⟩ rfl (Nat.le_trans (Nat.add_le_add_left (by decide) _) hbd.out) hF.out ?_; intro v' w' hO' f'; obtain ⟨ad', n', cap', rfl, _, _, _⟩ := hO'.shape')
          | go_in)
        exact ⟨⟨i + 1, ad', n', cap', by omega, by go_num, rfl, by show BytesO _ _ _ (escL inT ((bl s).take (i + 1))); rw [HS.out]; exact hO', f'⟩, by simp [RowKit.intOf]; omega⟩
      have g13 : (((c.toNat : Nat) : Int) == 13) = false := u8_ne (d := 13) h13
      rw [show inT c = [] from by unfold inT; rw [if_neg h38, if_neg h60, if_neg h62, if_neg h13], if_pos rfl] at hst
      have HS := Hid.mk hst
      have cX : (wr.alloc (.cells #[.int .u8 (c.toNat : Int)] 5)).cell? ⟨wr.heap.size, 0, none⟩ = some (.int .u8 (c.toNat : Int)) := by rw [cell_of_row _ _ _ _ _ _ (heap_alloc_new wr _)]; rfl
      have CX := Hid.mk cX
      clear hst cX h38 h60 h62 h13
      go_wp2_with (first
        | (refine wp_appB rfl _ _ rfl w _ _ rfl (hO.out.kept ((Fr.refl [] wr).alloc _)) wr.heap.size 1 c rfl CX.out (Nat.le_trans (Nat.add_le_add_left (by decide) _) hbd.out) (hF.out.alloc _) ?_; intro v' w' hO' f'; obtain ⟨ad', n', cap', rfl, _, _, _⟩ := hO'.shape')
        | go_in)
      exact ⟨⟨i + 1, ad', n', cap', by omega, by go_num, rfl, by show BytesO _ _ _ (escL inT ((bl s).take (i + 1))); rw [HS.out]; exact hO', f'⟩, by simp [RowKit.intOf]; omega⟩
    · obtain rfl : i = n := by omega
      have hlt' : ¬ (i : Int) < (i : Int) := by omega
      have ht : (bl s).take i = bl s := List.take_of_length_le (by rw [HB.out]; exact Nat.le_refl _)
      have HT := Hid.mk ht
      obtain ⟨ad', n', cap', e', hln, hba, hpl⟩ := hO.out.shape'
      cases e'
      clear ht
      go_wp2_with (first
        | (refine wp_conv rfl _ rfl (escL inT ((bl s).take i)) av nv cv rfl hln.out hba.out (fun _ => hpl.out) ?_)
        | go_in)
      go_ret
      exact ⟨by rw [HT.out]; rfl, hF.out⟩
set_option maxHeartbeats 8000000 in
set_option maxRecDepth 100000 in
theorem refQuote_any (w : World) (s : ByteArray) (hs : s.size ≤ 1000000) :
    Calls Tryd.prog 17 #[.string s] w fun e w' => e = .returned (.string (mkS (quoV s))) ∧ Fr [] w w' := by
  obtain ⟨n, hn⟩ : ∃ n, s.size = n := ⟨_, rfl⟩
  have HN := Hid.mk hn
  have HB := Hid.mk (show (bl s).length = n by rw [bl_length, hn])
  have HL := Hid.mk (show ∀ i, (escL inV ((bl s).take i)).length ≤ 6 * n from fun i => by
    have h1 := esc_long inV inV_len ((bl s).take i)
    have h2 : ((bl s).take i).length ≤ n := by rw [List.length_take, bl_length, hn]; omega
    omega)
  have hn1 : (s.size : Int) = (n : Int) := by omega
  have hn2 : (n : Int) ≤ 1000000 := by omega
  have hn3 : n ≤ 1000000 := by omega
  clear hs hn
  have O0 := Hid.mk (show BytesO w (w.alloc (.cells #[.int .u8 34] 5)) (.slice (some ⟨w.heap.size, 0, none⟩) 1 1) [34] from ⟨rfl, Or.inr ⟨w.heap.size, 1, #[.int .u8 34], rfl, Nat.le_refl _, heap_alloc_new w _, Nat.le_refl _, by unfold maxLen; omega, rfl, rfl⟩⟩)
  go_enter Tryd.func17, Tryd.ntmps17
  go_wp2_with go_in
  go_loopw [3, 4] (fun s3 s4 wr => ∃ (i : Nat) (av : Option Addr) (nv cv : Nat), i ≤ n ∧ s4 = .int .i64 (i : Int) ∧ s3 = .slice av nv cv ∧ Hid (BytesO w wr (.slice av nv cv) ([34] ++ escL inV ((bl s).take i))) ∧ Hid (Fr [] w wr)) (fun _ s4 _ => n - (RowKit.intOf s4).toNat)
  case atStart => exact ⟨0, some ⟨w.heap.size, 0, none⟩, 1, 1, by omega, rfl, rfl, by show BytesO _ _ _ ([34] ++ []); exact O0.out, (Fr.refl [] w).alloc _⟩
  case round =>
    obtain ⟨i, av, nv, cv, hi, rfl, rfl, hO, hF⟩ := hrel
    have hi0 : (0 : Int) ≤ (i : Int) := by omega
    by_cases hlt : i < n
    · have hlt' : (i : Int) < (n : Int) := by omega
      have hix := run_idx s (i : Int) i rfl (by rw [HN.out]; exact hlt)
      have hst := esc_next inV (bl s) i (by rw [HB.out]; exact hlt)
      have hbd := Hid.mk (show ([34] ++ escL inV ((bl s).take i)).length + 6 ≤ 140737488355328 from by
        have := HL.out i
        simp only [List.length_append, List.length_cons, List.length_nil]
        omega)
      generalize byteAt (bl s) i = c at hix hst
      by_cases h38 : c = 38
      · subst h38
        rw [show inV 38 = [38, 97, 109, 112, 59] from rfl, if_neg (by simp)] at hst
        have HS := Hid.mk hst
        clear hst
        go_wp2_with (first
          | (refine wp_appStr rfl _ _ rfl w _ _ rfl hO.out ⟨#[38, 97, 109, 112, 59]⟩ rfl (Nat.le_trans (Nat.add_le_add_left (by decide) _) hbd.out) hF.out ?_; intro v' w' hO' f'; obtain ⟨ad', n', cap', rfl, _, _, _⟩ := hO'.shape')
          | go_in)
        exact ⟨⟨i + 1, ad', n', cap', by omega, by go_num, rfl, by show BytesO _ _ _ ([34] ++ escL inV ((bl s).take (i + 1))); rw [HS.out, ← List.append_assoc]; exact hO', f'⟩, by simp [RowKit.intOf]; omega⟩
      have g38 : (((c.toNat : Nat) : Int) == 38) = false := u8_ne (d := 38) h38
      by_cases h60 : c = 60
      · subst h60
        rw [show inV 60 = [38, 108, 116, 59] from rfl, if_neg (by simp)] at hst
        have HS := Hid.mk hst
        clear hst
        go_wp2_with (first
          | (refine wp_appStr rfl _ _ rfl w _ _ rfl hO.out ⟨#[38, 108, 116, 59]⟩ rfl (Nat.le_trans (Nat.add_le_add_left (by decide) _) hbd.out) hF.out ?_; intro v' w' hO' f'; obtain ⟨ad', n', cap', rfl, _, _, _⟩ := hO'.shape')
          | go_in)
        exact ⟨⟨i + 1, ad', n', cap', by omega, by go_num, rfl, by show BytesO _ _ _ ([34] ++ escL inV ((bl s).take (i + 1))); rw [HS.out, ← List.append_assoc]; exact hO', f'⟩, by simp [RowKit.intOf]; omega⟩
      have g60 : (((c.toNat : Nat) : Int) == 60) = false := u8_ne (d := 60) h60
      by_cases h34 : c = 34
      · subst h34
        rw [show inV 34 = [38, 113, 117, 111, 116, 59] from rfl, if_neg (by simp)] at hst
        have HS := Hid.mk hst
        clear hst
        go_wp2_with (first
          | (refine wp_appStr rfl _ _ rfl w _ _ rfl hO.out ⟨#[38, 113, 117, 111, 116, 59]⟩ rfl (Nat.le_trans (Nat.add_le_add_left (by decide) _) hbd.out) hF.out ?_; intro v' w' hO' f'; obtain ⟨ad', n', cap', rfl, _, _, _⟩ := hO'.shape')
          | go_in)
        exact ⟨⟨i + 1, ad', n', cap', by omega, by go_num, rfl, by show BytesO _ _ _ ([34] ++ escL inV ((bl s).take (i + 1))); rw [HS.out, ← List.append_assoc]; exact hO', f'⟩, by simp [RowKit.intOf]; omega⟩
      have g34 : (((c.toNat : Nat) : Int) == 34) = false := u8_ne (d := 34) h34
      by_cases h9 : c = 9
      · subst h9
        rw [show inV 9 = [38, 35, 57, 59] from rfl, if_neg (by simp)] at hst
        have HS := Hid.mk hst
        clear hst
        go_wp2_with (first
          | (refine wp_appStr rfl _ _ rfl w _ _ rfl hO.out ⟨#[38, 35, 57, 59]⟩ rfl (Nat.le_trans (Nat.add_le_add_left (by decide) _) hbd.out) hF.out ?_; intro v' w' hO' f'; obtain ⟨ad', n', cap', rfl, _, _, _⟩ := hO'.shape')
          | go_in)
        exact ⟨⟨i + 1, ad', n', cap', by omega, by go_num, rfl, by show BytesO _ _ _ ([34] ++ escL inV ((bl s).take (i + 1))); rw [HS.out, ← List.append_assoc]; exact hO', f'⟩, by simp [RowKit.intOf]; omega⟩
      have g9 : (((c.toNat : Nat) : Int) == 9) = false := u8_ne (d := 9) h9
      by_cases h10 : c = 10
      · subst h10
        rw [show inV 10 = [38, 35, 49, 48, 59] from rfl, if_neg (by simp)] at hst
        have HS := Hid.mk hst
        clear hst
        go_wp2_with (first
          | (refine wp_appStr rfl _ _ rfl w _ _ rfl hO.out ⟨#[38, 35, 49, 48, 59]⟩ rfl (Nat.le_trans (Nat.add_le_add_left (by decide) _) hbd.out) hF.out ?_; intro v' w' hO' f'; obtain ⟨ad', n', cap', rfl, _, _, _⟩ := hO'.shape')
          | go_in)
        exact ⟨⟨i + 1, ad', n', cap', by omega, by go_num, rfl, by show BytesO _ _ _ ([34] ++ escL inV ((bl s).take (i + 1))); rw [HS.out, ← List.append_assoc]; exact hO', f'⟩, by simp [RowKit.intOf]; omega⟩
      have g10 : (((c.toNat : Nat) : Int) == 10) = false := u8_ne (d := 10) h10
      by_cases h13 : c = 13
      · subst h13
        rw [show inV 13 = [38, 35, 49, 51, 59] from rfl, if_neg (by simp)] at hst
        have HS := Hid.mk hst
        clear hst
        go_wp2_with (first
          | (refine wp_appStr rfl _ _ rfl w _ _ rfl hO.out ⟨#[38, 35, 49, 51, 59]⟩ rfl (Nat.le_trans (Nat.add_le_add_left (by decide) _) hbd.out) hF.out ?_; intro v' w' hO' f'; obtain ⟨ad', n', cap', rfl, _, _, _⟩ := hO'.shape')
          | go_in)
        exact ⟨⟨i + 1, ad', n', cap', by omega, by go_num, rfl, by show BytesO _ _ _ ([34] ++ escL inV ((bl s).take (i + 1))); rw [HS.out, ← List.append_assoc]; exact hO', f'⟩, by simp [RowKit.intOf]; omega⟩
      have g13 : (((c.toNat : Nat) : Int) == 13) = false := u8_ne (d := 13) h13
      rw [show inV c = [] from by unfold inV; rw [if_neg h38, if_neg h60, if_neg h34, if_neg h9, if_neg h10, if_neg h13], if_pos rfl] at hst
      have HS := Hid.mk hst
      have cX : (wr.alloc (.cells #[.int .u8 (c.toNat : Int)] 5)).cell? ⟨wr.heap.size, 0, none⟩ = some (.int .u8 (c.toNat : Int)) := by rw [cell_of_row _ _ _ _ _ _ (heap_alloc_new wr _)]; rfl
      have CX := Hid.mk cX
      clear hst cX h38 h60 h34 h9 h10 h13
      go_wp2_with (first
        | (refine wp_appB rfl _ _ rfl w _ _ rfl (hO.out.kept ((Fr.refl [] wr).alloc _)) wr.heap.size 1 c rfl CX.out (Nat.le_trans (Nat.add_le_add_left (by decide) _) hbd.out) (hF.out.alloc _) ?_; intro v' w' hO' f'; obtain ⟨ad', n', cap', rfl, _, _, _⟩ := hO'.shape')
        | go_in)
      exact ⟨⟨i + 1, ad', n', cap', by omega, by go_num, rfl, by show BytesO _ _ _ ([34] ++ escL inV ((bl s).take (i + 1))); rw [HS.out, ← List.append_assoc]; exact hO', f'⟩, by simp [RowKit.intOf]; omega⟩
    · obtain rfl : i = n := by omega
      have hlt' : ¬ (i : Int) < (i : Int) := by omega
      have ht : (bl s).take i = bl s := List.take_of_length_le (by rw [HB.out]; exact Nat.le_refl _)
      have HT := Hid.mk ht
      have hbd := Hid.mk (show ([34] ++ escL inV ((bl s).take i)).length + 1 ≤ 140737488355328 from by
        have := HL.out i
        simp only [List.length_append, List.length_cons, List.length_nil]
        omega)
      have cX : (wr.alloc (.cells #[.int .u8 34] 5)).cell? ⟨wr.heap.size, 0, none⟩ = some (.int .u8 ((34 : UInt8).toNat : Int)) := by rw [cell_of_row _ _ _ _ _ _ (heap_alloc_new wr _)]; rfl
      have CX := Hid.mk cX
      clear ht cX
      go_wp2_with (first
        | (refine wp_appB rfl _ _ rfl w _ _ rfl (hO.out.kept ((Fr.refl [] wr).alloc _)) wr.heap.size 1 34 rfl CX.out hbd.out (hF.out.alloc _) ?_; intro v' w' hO' f'; obtain ⟨ad', n', cap', rfl, hln, hba, hpl⟩ := hO'.shape')
        | (refine wp_conv rfl _ rfl ([34] ++ escL inV ((bl s).take i) ++ [34]) ad' n' cap' rfl hln.out hba.out (fun _ => hpl.out) ?_)
        | go_in)
      go_ret
      exact ⟨by rw [HT.out]; rfl, f'⟩
end Go.Proofs.YtjdcfaaoicnajaaDoor
