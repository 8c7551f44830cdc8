/-
  The document's own answer: a label's steps.
-/
import Derived.Test.YtddcilmeignlmaaGreatDoorXLab
namespace Go.Proofs.YtddcilmeignlmaaGreatDoor
open Go.RowKit Go.Maps Go.Lib

/-! ### what reading tells -/
theorem lab_fits {l : List UInt8} {ss : List (List Bool)} (L : Lab l ss) : l.length = ((enc ss).length + 7) / 8 := by
  have hl := L.rep.bl_len
  rw [bl_mkS] at hl
  exact hl
theorem none_lab {l : List UInt8} {r : List Bool} (hr : r = bitsTo l (8 * l.length)) (h : go r [] [] = none) : ∀ ss, ¬ Lab l ss := by
  intro ss L
  have := lab_go L
  rw [← hr, h] at this
  cases this
theorem rest_lab {l : List UInt8} {r rest : List Bool} {acc : List (List Bool)} (hr : r = bitsTo l (8 * l.length)) (h : go r [] [] = some (acc, rest)) (hb : true ∈ rest ∨ 8 ≤ rest.length) : ∀ ss, ¬ Lab l ss := by
  intro ss L
  have := lab_go L
  rw [← hr, h] at this
  obtain ⟨rfl, rfl⟩ : acc = ss ∧ rest = _ := by simpa using this
  have hf := lab_fits L
  rcases hb with hb | hb
  · simp [List.mem_replicate] at hb
  · rw [List.length_replicate] at hb
    omega
theorem yes_lab {l : List UInt8} {r : List Bool} {k : Nat} {acc : List (List Bool)} (hm : l.length ≤ 128) (hr : r = bitsTo l (8 * l.length)) (hk : k ≤ r.length) (h : go r [] [] = some (acc, r.drop k)) (hz : ∀ i, k ≤ i → i < r.length → r.getD i false = false) (h8 : r.length - k < 8) : Lab l acc := by
  have hN : r.length = 8 * l.length := by rw [hr, bitsTo_length]
  obtain ⟨h1, h2, _⟩ := go_sound r [] [] acc (r.drop k) h (fun _ hs => nomatch hs)
  rw [enc_nil, dbl_nil, List.nil_append, List.nil_append] at h1
  have he : enc acc = r.take k := by
    have : r.take k ++ r.drop k = enc acc ++ r.drop k := by rw [List.take_append_drop]; exact h1
    exact (List.append_cancel_right this).symm
  have hl : (enc acc).length = k := by rw [he, List.length_take]; omega
  refine lab_of hm ⟨by omega, by omega, ?_, fun i hi => ?_⟩ ?_ h2 (by omega)
  · rw [Int.toNat_natCast, hl]; omega
  · rw [Int.toNat_natCast, hl] at hi
    by_cases hi2 : i < 8 * l.length
    · have := hz i hi (by omega)
      rw [hr] at this
      simpa [bitsTo, hi2] using this
    · exact bitAt_ge (by omega)
  · rw [hl, he, hr, bitsTo_take _ _ _ (by omega)]
theorem drop_get (r : List Bool) (k : Nat) (h : k < r.length) : r.drop k = r.getD k false :: r.drop (k + 1) := by
  rw [List.drop_eq_getElem_cons h]
  simp [h]
theorem go_pair {r st : List Bool} {acc : List (List Bool)} {k : Nat} (h : k + 1 < r.length) (ht : r.getD k false = true) : go (r.drop k) st acc = go (r.drop (k + 2)) (st ++ [r.getD (k + 1) false]) acc := by
  rw [drop_get r k (by omega), drop_get r (k + 1) h, ht, go]
theorem go_out {r st : List Bool} {acc : List (List Bool)} {k : Nat} (h : r.length ≤ k) (hs : st ≠ []) : go (r.drop k) st acc = none := by
  rw [List.drop_eq_nil_of_le h, go, if_neg hs]
theorem go_last {r st : List Bool} {acc : List (List Bool)} {k : Nat} (h : k < r.length) (h1 : r.length ≤ k + 1) (ht : r.getD k false = true) : go (r.drop k) st acc = none := by
  rw [drop_get r k h, List.drop_eq_nil_of_le h1, ht, go]
theorem last_get (st : List Bool) (hs : st ≠ []) : st.getLast? = some (st.getD (st.length - 1) false) := by
  have : 0 < st.length := List.length_pos_iff.2 hs
  rw [List.getLast?_eq_getElem?, List.getElem?_eq_getElem (by omega)]
  simp [show st.length - 1 < st.length by omega]
theorem go_bad {r st : List Bool} {acc : List (List Bool)} {k : Nat} (h : k < r.length) (hf : r.getD k false = false) (hs : st ≠ []) (hl : st.getD (st.length - 1) false = false) : go (r.drop k) st acc = none := by
  rw [drop_get r k h, hf, go, if_neg hs, last_get st hs, hl, if_neg (by simp)]
theorem go_step {r st : List Bool} {acc : List (List Bool)} {k : Nat} (h : k < r.length) (hf : r.getD k false = false) (hs : st ≠ []) (hl : st.getD (st.length - 1) false = true) : go (r.drop k) st acc = go (r.drop (k + 1)) [] (acc ++ [st]) := by
  rw [drop_get r k h, hf, go, if_neg hs, last_get st hs, hl, if_pos rfl]
theorem go_stop {r : List Bool} {acc : List (List Bool)} {k : Nat} (h : k < r.length → r.getD k false = false) : go (r.drop k) [] acc = some (acc, r.drop k) := by
  apply go_end
  by_cases hk : k < r.length
  · rw [drop_get r k hk, h hk]; simp
  · rw [List.drop_eq_nil_of_le (by omega)]; simp
/-- The sign at a place of a text of bits. -/
theorem run_sT (r : List Bool) (i : Int) (k : Nat) (hk : i = (k : Int)) (h : k < r.length) (w : World) : (Instr.index 9 (.string (sT r)) (.int .i64 i)).run Tryz.prog w = .ok (.int .u8 ((chr (r.getD k false)).toNat : Nat)) w := by
  have q := run_idx (sT r) i k hk (by rw [sT_size]; exact h) w
  rw [show bl (sT r) = txt r from rfl, txt_byte r k h] at q
  exact q
theorem sT_snoc (st : List Bool) (b : Bool) : sT (st ++ [b]) = sT st ++ mkS [chr b] := by
  unfold sT
  rw [txt_app, mk_app]
  rfl
theorem cut_one (r : List Bool) (k : Nat) (h : k < r.length) : ((bl (sT r)).drop k).take (k + 1 - k) = [chr (r.getD k false)] := by
  rw [show k + 1 - k = 1 by omega]
  show ((txt r).drop k).take 1 = _
  simp [txt, List.drop_eq_getElem_cons, h]

theorem strs_lit (w : World) (x : ByteArray) : (w.alloc (.cells #[.string x] 9)).cell? ⟨w.heap.size, 0, none⟩ = some (.string x) := by
  rw [cell_of_row _ _ 0 _ _ _ (heap_alloc_new w _)]
  rfl
def StepsTo (l : List UInt8) (w : World) (e : Ending) (w' : World) : Prop := ((∃ v ss, Lab l ss ∧ e = .returned (.tuple #[v, .bool true]) ∧ Strs w w' v (ss.map sT)) ∨ ((∀ ss, ¬ Lab l ss) ∧ e = .returned (.tuple #[.slice none 0 0, .bool false]))) ∧ Fr [] w w'
theorem StepsTo.no {l : List UInt8} {w w' : World} (h : ∀ ss, ¬ Lab l ss) (f : Fr [] w w') : StepsTo l w (.returned (.tuple #[.slice none 0 0, .bool false])) w' := ⟨Or.inr ⟨h, rfl⟩, f⟩

set_option maxHeartbeats 1000000 in
theorem rsteps_long (w : World) (ad : Option Addr) (m c : Nat) (l : List UInt8) (hl : l.length = m) (hm : 128 < m) :
    Calls Tryz.prog 31 #[.slice ad m c] w (StepsTo l w) := by
  have hm' : (128 : Int) < (m : Int) := by omega
  have hno : ∀ ss, ¬ Lab l ss := fun ss L => by have := lab_len L; omega
  have HN := Lib.hid hno
  clear hno
  go_enter Tryz.func31, Tryz.ntmps31
  go_wp2
  go_ret2
  exact StepsTo.no HN.out (Fr.refl _ _)

set_option maxHeartbeats 8000000 in
set_option maxRecDepth 100000 in
theorem rsteps_short (w : World) (ad : Option Addr) (m c : Nat) (l : List UInt8) (hl : l.length = m) (hb : BytesAt w ad l) (hm : m ≤ 128) :
    Calls Tryz.prog 31 #[.slice ad m c] w (StepsTo l w) := by
  have hm' : ¬ (128 : Int) < (m : Int) := by omega
  have hu : UnOk l (8 * (m : Int)) := ⟨by omega, by omega, by omega, fun i hi => bitAt_ge (by omega)⟩
  have cU : Hid (Calls Tryz.prog 57 #[.slice ad m c, .int .i64 (8 * (m : Int))] w fun e w' => e = .returned (.tuple #[.string (sT (bitsTo l (8 * l.length))), .bool true]) ∧ Fr [] w w') := by
    refine (runpack_any w ad m c (8 * (m : Int)) l hl hb (by omega)).mono ?_
    rintro e w' ⟨⟨rfl, _⟩ | ⟨_, hn⟩, f⟩
    · refine ⟨?_, f⟩
      rw [show (8 * (m : Int)).toNat = 8 * l.length by omega]
      rfl
    · exact absurd hu hn
  obtain ⟨r, hr⟩ : ∃ r, r = bitsTo l (8 * l.length) := ⟨_, rfl⟩
  rw [← hr] at cU
  obtain ⟨N, hN⟩ : ∃ N, r.length = N := ⟨_, rfl⟩
  have hN1 : N ≤ 1024 := by rw [← hN, hr, bitsTo_length]; omega
  have hsz : (sT r).size = N := by rw [sT_size, hN]
  have isz : ((sT r).size : Int) = (N : Int) := by omega
  have HR := Lib.hid hr
  have HN := Lib.hid hN
  have HL := Lib.hid (show l.length ≤ 128 by omega)
  have hN1' : (N : Int) ≤ 1024 := by omega
  clear hr hu hb hN hsz
  have hmm : (m : Int) ≤ 128 := by omega
  have hm0 : (0 : Int) ≤ (m : Int) := by omega
  clear hl
  go_enter Tryz.func31, Tryz.ntmps31
  go_wp2_with (first
    | (go_at_call 57; refine cU.out.mono ?_; rintro e w1 ⟨rfl, f1⟩)
    | go_in)
  have F1 := Lib.hid f1
  clear f1
  go_loopw [6, 7] (fun v i wr => ∃ (k : Nat) (acc : List (List Bool)), k ≤ N ∧ i = .int .i64 k ∧ acc.length ≤ k ∧ Hid (go r [] [] = go (r.drop k) [] acc ∧ Strs w wr v (acc.map sT) ∧ Fr [] w wr)) (fun _ i _ => N - (RowKit.intOf i).toNat)
  case atStart => exact ⟨0, [], by omega, rfl, by simp, Lib.hid ⟨by rw [List.drop_zero], Strs.nil _ _, F1.out⟩⟩
  case round =>
    obtain ⟨k, acc, hk, rfl, hacc, hI⟩ := hrel
    have hk0 : (0 : Int) ≤ (k : Int) := by omega
    by_cases hin : k < N ∧ r.getD k false = true
    · obtain ⟨hkN, hkt⟩ := hin
      have hkN' : (k : Int) < (N : Int) := by omega
      have q1 := run_sT r (k : Int) k rfl (by rw [HN.out]; omega)
      rw [hkt, show (((chr true).toNat : Nat) : Int) = 49 from rfl] at q1
      have HKT := Lib.hid hkt
      clear hkt
      go_wp2_with go_in
      clear q1
      go_loopw [7, 8] (fun i s8 wk => wk = wr ∧ ∃ (j : Nat) (st : List Bool), j ≤ N ∧ i = .int .i64 j ∧ s8 = .string (sT st) ∧ Hid (j = k + 2 * st.length) ∧ Hid (go r [] [] = go (r.drop j) st acc)) (fun i _ _ => N - (RowKit.intOf i).toNat)
      case atStart => exact ⟨rfl, k, [], by omega, rfl, rfl, Lib.hid (by simp), Lib.hid hI.out.1⟩
      case round =>
        obtain ⟨rfl, j, st, hj, rfl, rfl, HJK, hG⟩ := hrel
        have hj0 : (0 : Int) ≤ (j : Int) := by omega
        have hst : st.length ≤ 1024 := by have := HJK.out; omega
        have hjk2 : k ≤ j := by have := HJK.out; omega
        have hss : ((sT st).size : Int) = (st.length : Int) := by rw [sT_size]
        have hst0 : (0 : Int) ≤ (st.length : Int) := by omega
        have hst1 : (st.length : Int) ≤ 1024 := by omega
        by_cases hj1 : j + 1 < N ∧ r.getD j false = true
        · obtain ⟨hj2, hjt⟩ := hj1
          have hj2' : (j : Int) + 1 < (N : Int) := by omega
          have q1 := run_sT r (j : Int) j rfl (by rw [HN.out]; omega)
          rw [hjt, show (((chr true).toNat : Nat) : Int) = 49 from rfl] at q1
          have q2 := run_mid (sT r) (j + 1) (j + 2) (by omega) (by rw [sT_size, HN.out]; omega)
          have e1 := cut_one r (j + 1) (by rw [HN.out]; exact hj2)
          rw [show j + 1 + 1 - (j + 1) = j + 2 - (j + 1) by omega] at e1
          rw [e1, show (((j + 1 : Nat) : Int)) = (j : Int) + 1 by omega, show (((j + 2 : Nat) : Int)) = (j : Int) + 2 by omega] at q2
          have hG2 := Lib.hid (hG.out.trans (go_pair (by rw [HN.out]; exact hj2) hjt))
          generalize r.getD (j + 1) false = b at q2 hG2
          have d1 : ¬ 9223372036854775807 < (sT st).size + (mkS [chr b]).size := by rw [sT_size, show (mkS [chr b]).size = 1 from rfl]; omega
          have d2 : ¬ 9223372036854775807 < st.length + (mkS [chr b]).size := by rw [show (mkS [chr b]).size = 1 from rfl]; omega
          clear e1 hjt
          go_wp2_with fail
          refine ⟨⟨by trivial, j + 2, st ++ [b], by omega, by go_num, by rw [sT_snoc]; first | done | rfl | simp, Lib.hid (by have := HJK.out; rw [List.length_append]; simp; omega), hG2⟩, by simp [RowKit.intOf]; omega⟩
        by_cases hjN : j < N
        · have hjN' : (j : Int) < (N : Int) := by omega
          have hjN2 : ¬ (N : Int) ≤ (j : Int) := by omega
          have q1 := run_sT r (j : Int) j rfl (by rw [HN.out]; omega)
          by_cases hjt : r.getD j false = true
          · have hj2 : ¬ j + 1 < N := fun h => hj1 ⟨h, hjt⟩
            have hj2' : ¬ (j : Int) + 1 < (N : Int) := by omega
            rw [hjt, show (((chr true).toNat : Nat) : Int) = 49 from rfl] at q1
            have hG2 := Lib.hid (hG.out.trans (go_last (by rw [HN.out]; exact hjN) (by rw [HN.out]; omega) hjt))
            clear hjt hj1
            go_wp2
            go_ret2
            exact StepsTo.no (none_lab HR.out hG2.out) hI.out.2.2
          have hjf : r.getD j false = false := by simpa using hjt
          rw [hjf, show (((chr false).toNat : Nat) : Int) = 48 from rfl] at q1
          have HJF := Lib.hid hjf
          have hne : Hid (st ≠ []) := Lib.hid (by
            rintro rfl
            have : j = k := by simpa using HJK.out
            subst this
            rw [HKT.out] at hjf
            cases hjf)
          have hp : 0 < st.length := List.length_pos_iff.2 hne.out
          have hp' : (0 : Int) < (st.length : Int) := by omega
          clear hjt hjf hj1
          by_cases hx : j + 1 < N
          · have hx' : (j : Int) + 1 < (N : Int) := by omega
            by_cases hla : st.getD (st.length - 1) false = true
            · have q2 := run_sT st ((st.length : Int) - 1) (st.length - 1) (by omega) (by omega)
              rw [hla, show (((chr true).toNat : Nat) : Int) = 49 from rfl] at q2
              have hG2 := Lib.hid (hG.out.trans (go_step (by rw [HN.out]; exact hjN) HJF.out hne.out hla))
              clear hla
              go_wp2_with (first
                | (refine wp_appS rfl _ _ rfl w _ (acc.map sT) rfl (hI.out.2.1.kept0 ((Fr.refl [] wr).alloc _)) (hI.out.2.2.alloc _).size wr.heap.size 1 (sT st) rfl (strs_lit _ _) (by rw [List.length_map]; omega) (hI.out.2.2.alloc _) ?_; intro v5 w5 o5 f5))
              refine ⟨⟨j + 1, acc ++ [st], by omega, by go_num, by rw [List.length_append]; simp; omega, Lib.hid ⟨hG2.out, by rw [List.map_append]; exact o5, f5⟩⟩, by simp [RowKit.intOf]; omega⟩
            · have hlf : st.getD (st.length - 1) false = false := by simpa using hla
              have q2 := run_sT st ((st.length : Int) - 1) (st.length - 1) (by omega) (by omega)
              rw [hlf, show (((chr false).toNat : Nat) : Int) = 48 from rfl] at q2
              have hG2 := Lib.hid (hG.out.trans (go_bad (by rw [HN.out]; exact hjN) HJF.out hne.out hlf))
              clear hla hlf
              go_wp2
              go_ret2
              exact StepsTo.no (none_lab HR.out hG2.out) hI.out.2.2
          · have hx' : ¬ (j : Int) + 1 < (N : Int) := by omega
            by_cases hla : st.getD (st.length - 1) false = true
            · have q2 := run_sT st ((st.length : Int) - 1) (st.length - 1) (by omega) (by omega)
              rw [hla, show (((chr true).toNat : Nat) : Int) = 49 from rfl] at q2
              have hG2 := Lib.hid (hG.out.trans (go_step (by rw [HN.out]; exact hjN) HJF.out hne.out hla))
              clear hla
              go_wp2_with (first
                | (refine wp_appS rfl _ _ rfl w _ (acc.map sT) rfl (hI.out.2.1.kept0 ((Fr.refl [] wr).alloc _)) (hI.out.2.2.alloc _).size wr.heap.size 1 (sT st) rfl (strs_lit _ _) (by rw [List.length_map]; omega) (hI.out.2.2.alloc _) ?_; intro v5 w5 o5 f5))
              refine ⟨⟨j + 1, acc ++ [st], by omega, by go_num, by rw [List.length_append]; simp; omega, Lib.hid ⟨hG2.out, by rw [List.map_append]; exact o5, f5⟩⟩, by simp [RowKit.intOf]; omega⟩
            · have hlf : st.getD (st.length - 1) false = false := by simpa using hla
              have q2 := run_sT st ((st.length : Int) - 1) (st.length - 1) (by omega) (by omega)
              rw [hlf, show (((chr false).toNat : Nat) : Int) = 48 from rfl] at q2
              have hG2 := Lib.hid (hG.out.trans (go_bad (by rw [HN.out]; exact hjN) HJF.out hne.out hlf))
              clear hla hlf
              go_wp2
              go_ret2
              exact StepsTo.no (none_lab HR.out hG2.out) hI.out.2.2
        · have hj2' : ¬ (j : Int) + 1 < (N : Int) := by omega
          have hjN2 : (N : Int) ≤ (j : Int) := by omega
          have hne : st ≠ [] := by
            rintro rfl
            have : j = k := by simpa using HJK.out
            omega
          have hG2 := Lib.hid (hG.out.trans (go_out (by rw [HN.out]; omega) hne))
          clear hj1 hne
          go_wp2
          go_ret2
          exact StepsTo.no (none_lab HR.out hG2.out) hI.out.2.2
    · have hG := Lib.hid (hI.out.1.trans (go_stop (fun h => by
        rw [HN.out] at h
        simpa using fun h2 => hin ⟨h, h2⟩)))
      have HF := Lib.hid (show k < N → r.getD k false = false from fun h => by simpa using fun h2 => hin ⟨h, h2⟩)
      clear hin
      by_cases hkN : k < N
      · have hkN' : (k : Int) < (N : Int) := by omega
        have q1 := run_sT r (k : Int) k rfl (by rw [HN.out]; omega)
        rw [HF.out hkN, show (((chr false).toNat : Nat) : Int) = 48 from rfl] at q1
        go_wp2_with go_in
        clear q1
        go_loopw [9] (fun i wk => wk = wr ∧ ∃ j : Nat, k ≤ j ∧ j ≤ N ∧ i = .int .i64 j ∧ Hid (∀ x, k ≤ x → x < j → r.getD x false = false) ∧ (k < j → N - k < 8)) (fun i _ => N - (RowKit.intOf i).toNat)
        case atStart => exact ⟨by trivial, k, by omega, by omega, rfl, Lib.hid (fun x h1 h2 => by omega), by omega⟩
        case round =>
          obtain ⟨rfl, j, hkj, hj, rfl, hZ, h8⟩ := hrel
          have hj0 : (0 : Int) ≤ (j : Int) := by omega
          by_cases hjN : j < N
          · have hjN' : (j : Int) < (N : Int) := by omega
            have q2 := run_sT r (j : Int) j rfl (by rw [HN.out]; omega)
            by_cases hjt : r.getD j false = true
            · rw [hjt, show (((chr true).toNat : Nat) : Int) = 49 from rfl] at q2
              have hM := Lib.hid (show true ∈ r.drop k from by
                refine List.mem_iff_getElem?.2 ⟨j - k, ?_⟩
                rw [List.getElem?_drop, show k + (j - k) = j by omega, List.getElem?_eq_getElem (by rw [HN.out]; exact hjN)]
                have : r.getD j false = r[j]'(by rw [HN.out]; exact hjN) := by simp [show j < r.length by rw [HN.out]; exact hjN]
                rw [← this, hjt])
              clear hjt
              go_wp2
              go_ret2
              exact StepsTo.no (rest_lab HR.out hG.out (Or.inl hM.out)) hI.out.2.2
            · have hjf : r.getD j false = false := by simpa using hjt
              rw [hjf, show (((chr false).toNat : Nat) : Int) = 48 from rfl] at q2
              have HJF := Lib.hid hjf
              clear hjf hjt
              by_cases h9 : 8 ≤ N - k
              · have h9' : (8 : Int) ≤ (N : Int) - (k : Int) := by omega
                go_wp2
                go_ret2
                exact StepsTo.no (rest_lab HR.out hG.out (Or.inr (by rw [List.length_drop, HN.out]; exact h9))) hI.out.2.2
              · have h9' : ¬ (8 : Int) ≤ (N : Int) - (k : Int) := by omega
                have h9'' : (N : Int) - (k : Int) < 8 := by omega
                go_wp2
                refine ⟨⟨by trivial, j + 1, by omega, by omega, by go_num, Lib.hid (fun x h1 h2 => ?_), by omega⟩, by simp [RowKit.intOf]; omega⟩
                by_cases hxj : x = j
                · subst hxj; exact HJF.out
                · exact hZ.out x h1 (by omega)
          · obtain rfl : j = N := by omega
            have hY := Lib.hid (yes_lab HL.out HR.out (by rw [HN.out]; exact hk) hG.out (fun x h1 h2 => hZ.out x h1 (by rw [HN.out] at h2; exact h2)) (by rw [HN.out]; rcases Nat.eq_or_lt_of_le hkj with e | e <;> first | omega | exact h8 e))
            go_wp2
            go_ret2
            exact ⟨Or.inl ⟨_, acc, hY.out, rfl, hI.out.2.1⟩, hI.out.2.2⟩
      · have hkN' : ¬ (k : Int) < (N : Int) := by omega
        go_wp2_with go_in
        skip
        go_loopw [9] (fun i wk => wk = wr ∧ ∃ j : Nat, k ≤ j ∧ j ≤ N ∧ i = .int .i64 j ∧ Hid (∀ x, k ≤ x → x < j → r.getD x false = false) ∧ (k < j → N - k < 8)) (fun i _ => N - (RowKit.intOf i).toNat)
        case atStart => exact ⟨by trivial, k, by omega, by omega, rfl, Lib.hid (fun x h1 h2 => by omega), by omega⟩
        case round =>
          obtain ⟨rfl, j, hkj, hj, rfl, hZ, h8⟩ := hrel
          have hj0 : (0 : Int) ≤ (j : Int) := by omega
          by_cases hjN : j < N
          · have hjN' : (j : Int) < (N : Int) := by omega
            have q2 := run_sT r (j : Int) j rfl (by rw [HN.out]; omega)
            by_cases hjt : r.getD j false = true
            · rw [hjt, show (((chr true).toNat : Nat) : Int) = 49 from rfl] at q2
              have hM := Lib.hid (show true ∈ r.drop k from by
                refine List.mem_iff_getElem?.2 ⟨j - k, ?_⟩
                rw [List.getElem?_drop, show k + (j - k) = j by omega, List.getElem?_eq_getElem (by rw [HN.out]; exact hjN)]
                have : r.getD j false = r[j]'(by rw [HN.out]; exact hjN) := by simp [show j < r.length by rw [HN.out]; exact hjN]
                rw [← this, hjt])
              clear hjt
              go_wp2
              go_ret2
              exact StepsTo.no (rest_lab HR.out hG.out (Or.inl hM.out)) hI.out.2.2
            · have hjf : r.getD j false = false := by simpa using hjt
              rw [hjf, show (((chr false).toNat : Nat) : Int) = 48 from rfl] at q2
              have HJF := Lib.hid hjf
              clear hjf hjt
              by_cases h9 : 8 ≤ N - k
              · have h9' : (8 : Int) ≤ (N : Int) - (k : Int) := by omega
                go_wp2
                go_ret2
                exact StepsTo.no (rest_lab HR.out hG.out (Or.inr (by rw [List.length_drop, HN.out]; exact h9))) hI.out.2.2
              · have h9' : ¬ (8 : Int) ≤ (N : Int) - (k : Int) := by omega
                have h9'' : (N : Int) - (k : Int) < 8 := by omega
                go_wp2
                refine ⟨⟨by trivial, j + 1, by omega, by omega, by go_num, Lib.hid (fun x h1 h2 => ?_), by omega⟩, by simp [RowKit.intOf]; omega⟩
                by_cases hxj : x = j
                · subst hxj; exact HJF.out
                · exact hZ.out x h1 (by omega)
          · obtain rfl : j = N := by omega
            have hY := Lib.hid (yes_lab HL.out HR.out (by rw [HN.out]; exact hk) hG.out (fun x h1 h2 => hZ.out x h1 (by rw [HN.out] at h2; exact h2)) (by rw [HN.out]; rcases Nat.eq_or_lt_of_le hkj with e | e <;> first | omega | exact h8 e))
            go_wp2
            go_ret2
            exact ⟨Or.inl ⟨_, acc, hY.out, rfl, hI.out.2.1⟩, hI.out.2.2⟩
theorem rsteps_any (w : World) (ad : Option Addr) (m c : Nat) (l : List UInt8) (hl : l.length = m) (hb : BytesAt w ad l) :
    Calls Tryz.prog 31 #[.slice ad m c] w (StepsTo l w) := by
  by_cases hm : m ≤ 128
  · exact rsteps_short w ad m c l hl hb hm
  · exact rsteps_long w ad m c l hl (by omega)
end Go.Proofs.YtddcilmeignlmaaGreatDoor
