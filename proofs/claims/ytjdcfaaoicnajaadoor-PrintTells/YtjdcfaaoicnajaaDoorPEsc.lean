/-
  escaped, text, value, instruction; Escape, Quote.
-/
import Derived.Test.YtjdcfaaoicnajaaDoorPPut
namespace Go.Proofs.YtjdcfaaoicnajaaDoor
open Go.RowKit Go.Maps Go.Lib

/-- Bytes, those that a reference stands for by it. -/
def escL (R : UInt8 → List UInt8) (l : List UInt8) : List UInt8 := (l.map fun c => if R c = [] then [c] else R c).flatten
theorem escL_app (R : UInt8 → List UInt8) (a b : List UInt8) : escL R (a ++ b) = escL R a ++ escL R b := by simp [escL]
theorem escL_one (R : UInt8 → List UInt8) (c : UInt8) : escL R [c] = if R c = [] then [c] else R c := by simp [escL]
theorem escL_plain (R : UInt8 → List UInt8) : ∀ l : List UInt8, (∀ c ∈ l, R c = []) → escL R l = l
  | [], _ => rfl
  | c :: r, h => by
    have ih := escL_plain R r (fun x hx => h x (List.mem_cons_of_mem _ hx))
    have : escL R (c :: r) = escL R [c] ++ escL R r := escL_app R [c] r
    rw [this, escL_one, if_pos (h c List.mem_cons_self), ih]
    rfl
theorem run_mid (s : ByteArray) (p q : Nat) (h1 : p ≤ q) (h2 : q ≤ s.size) (w : World) : (Instr.slice 9 (.string s) (some (.int .i64 (p : Int))) (some (.int .i64 (q : Int))) none).run Tryd.prog w = .ok (.string (mkS (((bl s).drop p).take (q - p)))) w := by
  rw [run_slice_string (P := Tryd.prog) w 9 s .i64 .i64 (p : Int) (q : Int) Tryd.underlying9 (by omega) (by omega) (by omega)]
  have e : s.extract p q = mkS (((bl s).drop p).take (q - p)) := by
    have := ByteArray.extract_mk (bl s) p q
    have e2 : ByteArray.mk (bl s).toArray = s := rfl
    rw [e2] at this
    rw [this]
    rfl
  simp [e]
/-- What a reference tells. -/
def RefAt (f : Nat) (R : UInt8 → List UInt8) : Prop := ∀ (w : World) (c : UInt8), Calls Tryd.prog f #[.int .u8 (c.toNat : Int)] w fun e w' => e = .returned (.string (mkS (R c))) ∧ w = w'
theorem esc_len_take (R : UInt8 → List UInt8) (l : List UInt8) (i : Nat) : (escL R (l.take i)).length ≤ (escL R l).length := by
  have : escL R l = escL R (l.take i) ++ escL R (l.drop i) := by rw [← escL_app, List.take_append_drop]
  rw [this, List.length_append]
  omega
theorem esc_mid (R : UInt8 → List UInt8) (l : List UInt8) (st i : Nat) (h : st ≤ i) (hi : i ≤ l.length) (hp : ∀ j, st ≤ j → j < i → R (byteAt l j) = []) : escL R (l.take i) = escL R (l.take st) ++ (l.drop st).take (i - st) := by
  have e : l.take i = l.take st ++ (l.drop st).take (i - st) := by
    rw [← List.take_add, show st + (i - st) = i by omega]
  rw [e, escL_app, escL_plain R ((l.drop st).take (i - st))]
  intro c hc
  obtain ⟨j, hj, rfl⟩ := List.getElem_of_mem hc
  have hj2 : j < i - st := by rw [List.length_take] at hj; omega
  have h5 := hp (st + j) (by omega) (by omega)
  rw [byteAt_lt (by omega)] at h5
  simpa using h5
theorem esc_step (R : UInt8 → List UInt8) (l : List UInt8) (i : Nat) (hi : i < l.length) (hr : ¬ R (byteAt l i) = []) : escL R (l.take (i + 1)) = escL R (l.take i) ++ R (byteAt l i) := by
  rw [byteAt_lt hi] at hr ⊢
  rw [List.take_succ_eq_append_getElem hi, escL_app, escL_one, if_neg hr]
set_option maxHeartbeats 8000000 in
set_option maxRecDepth 100000 in
theorem escaped_text (w0 w : World) (b : Nat) (S : List Nat) (l : List UInt8) (h : WAt w0 w b S l) (s : ByteArray) (hs : s.size ≤ 1000000) (hm : l.length + (escL inT (bl s)).length ≤ 140737488355328) :
    Calls Tryd.prog 36 #[.pointer (some ⟨b, 0, none⟩), .string s, .func (.func 37) #[] #[]] w fun e w' => e = .returned (.tuple #[]) ∧ WAt w0 w' b S (l ++ escL inT (bl s)) ∧ Keep S w w' := by
  have HW := Hid.mk h
  have HM := Hid.mk hm
  obtain ⟨n, hn⟩ : ∃ n, s.size = n := ⟨_, rfl⟩
  have HN := Hid.mk hn
  have HB := Hid.mk (show (bl s).length = n by rw [bl_length, hn])
  have hn1 : (s.size : Int) = (n : Int) := by omega
  have hn2 : (n : Int) ≤ 1000000 := by omega
  have hn3 : n ≤ 1000000 := by omega
  clear h hm hs hn
  go_enter Tryd.func36, Tryd.ntmps36
  go_wp2_with go_in
  go_loopw [6, 11] (fun s6 s11 wr => ∃ (st i : Nat), i ≤ n ∧ st ≤ i ∧ s6 = .int .i64 (st : Int) ∧ s11 = .int .i64 (i : Int) ∧ Hid (∀ j, st ≤ j → j < i → inT (byteAt (bl s) j) = []) ∧ Hid (WAt w0 wr b S (l ++ escL inT ((bl s).take st))) ∧ Hid (Keep S w wr)) (fun _ s11 _ => n - (RowKit.intOf s11).toNat)
  case atStart => exact ⟨0, 0, by omega, by omega, rfl, rfl, (fun j h1 h2 => by omega), by show WAt _ _ _ _ (l ++ escL inT ((bl s).take 0)); rw [List.take_zero]; show WAt _ _ _ _ (l ++ []); rw [List.append_nil]; exact HW.out, Keep.refl _ _⟩
  case round =>
    obtain ⟨st, i, hi, hst, rfl, rfl, hP, hA, hK⟩ := hrel
    have hi0 : (0 : Int) ≤ (i : Int) := by omega
    have hmid := Hid.mk (esc_mid inT (bl s) st i hst (by rw [HB.out]; exact hi) hP.out)
    by_cases hlt : i < n
    · have hlt' : (i : Int) < (n : Int) := by omega
      have hix := run_idx s (i : Int) i rfl (by rw [HN.out]; exact hlt)
      have cR := Hid.mk (inText_any wr (byteAt (bl s) i))
      by_cases hr : inT (byteAt (bl s) i) = []
      · rw [hr] at cR
        have hP' := Hid.mk (show ∀ j, st ≤ j → j < i + 1 → inT (byteAt (bl s) j) = [] from fun j h1 h2 => by
          rcases Nat.lt_or_ge j i with h3 | h3
          · exact hP.out j h1 h3
          · obtain rfl : j = i := by omega
            exact hr)
        rw [show mkS [] = { data := #[] } from rfl] at cR
        generalize (((byteAt (bl s) i).toNat : Nat) : Int) = C at hix cR
        clear hr
        go_wp2_with (go_at_call 37; refine cR.out.mono ?_; rintro e w5 ⟨rfl, rfl⟩)
        exact ⟨⟨st, i + 1, by omega, by omega, rfl, by go_num, hP', hA, hK⟩, by simp [RowKit.intOf]; omega⟩
      · have q1 := run_mid s st i hst (by rw [HN.out]; omega)
        have hes := Hid.mk (esc_step inT (bl s) i (by rw [HB.out]; exact hlt) hr)
        obtain ⟨X, hX⟩ : ∃ X, X = mkS (((bl s).drop st).take (i - st)) := ⟨_, rfl⟩
        obtain ⟨Y, hY⟩ : ∃ Y, Y = mkS (inT (byteAt (bl s) i)) := ⟨_, rfl⟩
        have hYe : Y.toList.isEmpty = false := by
          rw [hY, ByteArray.toList_eq]
          show (inT (byteAt (bl s) i)).isEmpty = false
          cases hq : inT (byteAt (bl s) i) with
          | nil => exact absurd hq hr
          | cons x r => rfl
        have hYn : ¬ Y.toList = [] := fun e => by rw [e] at hYe; cases hYe
        rw [← hX] at q1
        rw [← hY] at cR
        have hcat := Hid.mk (show escL inT ((bl s).take st) ++ cat [X, Y] = escL inT ((bl s).take (i + 1)) from by
          rw [hes.out, hmid.out, hX, hY]
          simp [cat, bl_mkS])
        have hbd := Hid.mk (show (l ++ escL inT ((bl s).take st)).length + (cat [X, Y]).length ≤ 140737488355328 from by
          have h1 := esc_len_take inT (bl s) (i + 1)
          rw [← hcat.out, List.length_append] at h1
          rw [List.length_append]
          have := HM.out
          omega)
        have cP := Hid.mk (put_new w0 wr b 2 2 S _ hA.out [X, Y] #[.string X, .string Y] rfl rfl (by omega) hbd.out)
        generalize (((byteAt (bl s) i).toNat : Nat) : Int) = C at hix cR
        clear hX hY hr
        go_wp2_with (first
          | (go_at_call 37; refine cR.out.mono ?_; rintro e w5 ⟨rfl, rfl⟩)
          | (go_at_call 38; refine cP.out.mono ?_; rintro e w6 ⟨rfl, a6, k6⟩))
        exact ⟨⟨i + 1, i + 1, by omega, by omega, by go_num, by go_num, (fun j h1 h2 => by omega), by show WAt _ _ _ _ (l ++ escL inT ((bl s).take (i + 1))); rw [← hcat.out, ← List.append_assoc]; exact a6, hK.out.trans k6⟩, by simp [RowKit.intOf]; omega⟩
    · obtain rfl : i = n := by omega
      have hlt' : ¬ (i : Int) < (i : Int) := by omega
      have q1 := run_tail s (st : Int) st rfl (by rw [HN.out]; omega)
      obtain ⟨X, hX⟩ : ∃ X, X = mkS ((bl s).drop st) := ⟨_, rfl⟩
      rw [← hX] at q1
      have hcat := Hid.mk (show escL inT ((bl s).take st) ++ cat [X] = escL inT (bl s) from by
        have h1 := hmid.out
        have t1 : (bl s).take i = bl s := List.take_of_length_le (by rw [HB.out]; exact Nat.le_refl _)
        have t2 : ((bl s).drop st).take (i - st) = (bl s).drop st := List.take_of_length_le (by rw [List.length_drop, HB.out]; exact Nat.le_refl _)
        rw [t1, t2] at h1
        rw [h1, hX]
        simp [cat, bl_mkS])
      have hbd := Hid.mk (show (l ++ escL inT ((bl s).take st)).length + (cat [X]).length ≤ 140737488355328 from by
        have h1 := congrArg List.length hcat.out
        rw [List.length_append] at h1
        rw [List.length_append]
        have := HM.out
        omega)
      have cP := Hid.mk (put_new w0 wr b 1 1 S _ hA.out [X] #[.string X] rfl rfl (by omega) hbd.out)
      clear hX
      go_wp2_with (first
        | (go_at_call 38; refine cP.out.mono ?_; rintro e w6 ⟨rfl, a6, k6⟩))
      go_end0
      exact ⟨rfl, by rw [← hcat.out, ← List.append_assoc]; exact a6, hK.out.trans k6⟩
set_option maxHeartbeats 8000000 in
set_option maxRecDepth 100000 in
theorem escaped_value (w0 w : World) (b : Nat) (S : List Nat) (l : List UInt8) (h : WAt w0 w b S l) (s : ByteArray) (hs : s.size ≤ 1000000) (hm : l.length + (escL inV (bl s)).length ≤ 140737488355328) :
    Calls Tryd.prog 36 #[.pointer (some ⟨b, 0, none⟩), .string s, .func (.func 39) #[] #[]] w fun e w' => e = .returned (.tuple #[]) ∧ WAt w0 w' b S (l ++ escL inV (bl s)) ∧ Keep S w w' := by
  have HW := Hid.mk h
  have HM := Hid.mk hm
  obtain ⟨n, hn⟩ : ∃ n, s.size = n := ⟨_, rfl⟩
  have HN := Hid.mk hn
  have HB := Hid.mk (show (bl s).length = n by rw [bl_length, hn])
  have hn1 : (s.size : Int) = (n : Int) := by omega
  have hn2 : (n : Int) ≤ 1000000 := by omega
  have hn3 : n ≤ 1000000 := by omega
  clear h hm hs hn
  go_enter Tryd.func36, Tryd.ntmps36
  go_wp2_with go_in
  go_loopw [6, 11] (fun s6 s11 wr => ∃ (st i : Nat), i ≤ n ∧ st ≤ i ∧ s6 = .int .i64 (st : Int) ∧ s11 = .int .i64 (i : Int) ∧ Hid (∀ j, st ≤ j → j < i → inV (byteAt (bl s) j) = []) ∧ Hid (WAt w0 wr b S (l ++ escL inV ((bl s).take st))) ∧ Hid (Keep S w wr)) (fun _ s11 _ => n - (RowKit.intOf s11).toNat)
  case atStart => exact ⟨0, 0, by omega, by omega, rfl, rfl, (fun j h1 h2 => by omega), by show WAt _ _ _ _ (l ++ escL inV ((bl s).take 0)); rw [List.take_zero]; show WAt _ _ _ _ (l ++ []); rw [List.append_nil]; exact HW.out, Keep.refl _ _⟩
  case round =>
    obtain ⟨st, i, hi, hst, rfl, rfl, hP, hA, hK⟩ := hrel
    have hi0 : (0 : Int) ≤ (i : Int) := by omega
    have hmid := Hid.mk (esc_mid inV (bl s) st i hst (by rw [HB.out]; exact hi) hP.out)
    by_cases hlt : i < n
    · have hlt' : (i : Int) < (n : Int) := by omega
      have hix := run_idx s (i : Int) i rfl (by rw [HN.out]; exact hlt)
      have cR := Hid.mk (inValue_any wr (byteAt (bl s) i))
      by_cases hr : inV (byteAt (bl s) i) = []
      · rw [hr] at cR
        have hP' := Hid.mk (show ∀ j, st ≤ j → j < i + 1 → inV (byteAt (bl s) j) = [] from fun j h1 h2 => by
          rcases Nat.lt_or_ge j i with h3 | h3
          · exact hP.out j h1 h3
          · obtain rfl : j = i := by omega
            exact hr)
        rw [show mkS [] = { data := #[] } from rfl] at cR
        generalize (((byteAt (bl s) i).toNat : Nat) : Int) = C at hix cR
        clear hr
        go_wp2_with (go_at_call 39; refine cR.out.mono ?_; rintro e w5 ⟨rfl, rfl⟩)
        exact ⟨⟨st, i + 1, by omega, by omega, rfl, by go_num, hP', hA, hK⟩, by simp [RowKit.intOf]; omega⟩
      · have q1 := run_mid s st i hst (by rw [HN.out]; omega)
        have hes := Hid.mk (esc_step inV (bl s) i (by rw [HB.out]; exact hlt) hr)
        obtain ⟨X, hX⟩ : ∃ X, X = mkS (((bl s).drop st).take (i - st)) := ⟨_, rfl⟩
        obtain ⟨Y, hY⟩ : ∃ Y, Y = mkS (inV (byteAt (bl s) i)) := ⟨_, rfl⟩
        have hYe : Y.toList.isEmpty = false := by
          rw [hY, ByteArray.toList_eq]
          show (inV (byteAt (bl s) i)).isEmpty = false
          cases hq : inV (byteAt (bl s) i) with
          | nil => exact absurd hq hr
          | cons x r => rfl
        have hYn : ¬ Y.toList = [] := fun e => by rw [e] at hYe; cases hYe
        rw [← hX] at q1
        rw [← hY] at cR
        have hcat := Hid.mk (show escL inV ((bl s).take st) ++ cat [X, Y] = escL inV ((bl s).take (i + 1)) from by
          rw [hes.out, hmid.out, hX, hY]
          simp [cat, bl_mkS])
        have hbd := Hid.mk (show (l ++ escL inV ((bl s).take st)).length + (cat [X, Y]).length ≤ 140737488355328 from by
          have h1 := esc_len_take inV (bl s) (i + 1)
          rw [← hcat.out, List.length_append] at h1
          rw [List.length_append]
          have := HM.out
          omega)
        have cP := Hid.mk (put_new w0 wr b 2 2 S _ hA.out [X, Y] #[.string X, .string Y] rfl rfl (by omega) hbd.out)
        generalize (((byteAt (bl s) i).toNat : Nat) : Int) = C at hix cR
        clear hX hY hr
        go_wp2_with (first
          | (go_at_call 39; refine cR.out.mono ?_; rintro e w5 ⟨rfl, rfl⟩)
          | (go_at_call 38; refine cP.out.mono ?_; rintro e w6 ⟨rfl, a6, k6⟩))
        exact ⟨⟨i + 1, i + 1, by omega, by omega, by go_num, by go_num, (fun j h1 h2 => by omega), by show WAt _ _ _ _ (l ++ escL inV ((bl s).take (i + 1))); rw [← hcat.out, ← List.append_assoc]; exact a6, hK.out.trans k6⟩, by simp [RowKit.intOf]; omega⟩
    · obtain rfl : i = n := by omega
      have hlt' : ¬ (i : Int) < (i : Int) := by omega
      have q1 := run_tail s (st : Int) st rfl (by rw [HN.out]; omega)
      obtain ⟨X, hX⟩ : ∃ X, X = mkS ((bl s).drop st) := ⟨_, rfl⟩
      rw [← hX] at q1
      have hcat := Hid.mk (show escL inV ((bl s).take st) ++ cat [X] = escL inV (bl s) from by
        have h1 := hmid.out
        have t1 : (bl s).take i = bl s := List.take_of_length_le (by rw [HB.out]; exact Nat.le_refl _)
        have t2 : ((bl s).drop st).take (i - st) = (bl s).drop st := List.take_of_length_le (by rw [List.length_drop, HB.out]; exact Nat.le_refl _)
        rw [t1, t2] at h1
        rw [h1, hX]
        simp [cat, bl_mkS])
      have hbd := Hid.mk (show (l ++ escL inV ((bl s).take st)).length + (cat [X]).length ≤ 140737488355328 from by
        have h1 := congrArg List.length hcat.out
        rw [List.length_append] at h1
        rw [List.length_append]
        have := HM.out
        omega)
      have cP := Hid.mk (put_new w0 wr b 1 1 S _ hA.out [X] #[.string X] rfl rfl (by omega) hbd.out)
      clear hX
      go_wp2_with (first
        | (go_at_call 38; refine cP.out.mono ?_; rintro e w6 ⟨rfl, a6, k6⟩))
      go_end0
      exact ⟨rfl, by rw [← hcat.out, ← List.append_assoc]; exact a6, hK.out.trans k6⟩

theorem esc_long (R : UInt8 → List UInt8) (hR : ∀ c, (R c).length ≤ 6) : ∀ l : List UInt8, (escL R l).length ≤ 6 * l.length
  | [] => by simp [escL]
  | c :: r => by
    have ih := esc_long R hR r
    have e : escL R (c :: r) = escL R [c] ++ escL R r := escL_app R [c] r
    rw [e, List.length_append, escL_one, List.length_cons]
    have := hR c
    split <;> simp <;> omega
theorem inT_len (c : UInt8) : (inT c).length ≤ 6 := by unfold inT; repeat' split
                                                       all_goals simp
theorem inV_len (c : UInt8) : (inV c).length ≤ 6 := by unfold inV; repeat' split
                                                       all_goals simp
def escT (s : ByteArray) : List UInt8 := escL inT (bl s)
def quoV (s : ByteArray) : List UInt8 := [34] ++ escL inV (bl s) ++ [34]
theorem escT_len (s : ByteArray) : (escT s).length ≤ 6 * s.size := by have := esc_long inT inT_len (bl s); rw [bl_length] at this; exact this
theorem quoV_len (s : ByteArray) : (quoV s).length ≤ 6 * s.size + 2 := by have := esc_long inV inV_len (bl s); rw [bl_length] at this; unfold quoV; simp; omega
theorem cat34 : cat [⟨#[34]⟩] = [34] := rfl
theorem wtext_any (w0 w : World) (b : Nat) (S : List Nat) (l : List UInt8) (h : WAt w0 w b S l) (s : ByteArray) (hs : s.size ≤ 1000000) (hm : l.length + (escT s).length ≤ 140737488355328) :
    Calls Tryd.prog 26 #[.pointer (some ⟨b, 0, none⟩), .string s] w fun e w' => e = .returned (.tuple #[]) ∧ WAt w0 w' b S (l ++ escT s) ∧ Keep S w w' := by
  have cE := Hid.mk (escaped_text w0 w b S l h s hs hm)
  clear h hs hm
  go_enter Tryd.func26, Tryd.ntmps26
  go_wp2_with (go_at_call 36; refine cE.out.mono ?_; rintro e w5 ⟨rfl, a5, k5⟩)
  go_end0
  exact ⟨rfl, a5, k5⟩
set_option maxHeartbeats 2000000 in
theorem wvalue_any (w0 w : World) (b : Nat) (S : List Nat) (l : List UInt8) (h : WAt w0 w b S l) (s : ByteArray) (hs : s.size ≤ 1000000) (hm : l.length + (quoV s).length ≤ 140737488355328) :
    Calls Tryd.prog 28 #[.pointer (some ⟨b, 0, none⟩), .string s] w fun e w' => e = .returned (.tuple #[]) ∧ WAt w0 w' b S (l ++ quoV s) ∧ Keep S w w' := by
  have hq : (quoV s).length = (escL inV (bl s)).length + 2 := by unfold quoV; simp
  have hm5 := Hid.mk (show l.length + ((escL inV (bl s)).length + 2) ≤ 140737488355328 by omega)
  have hs5 := Hid.mk hs
  have cP := Hid.mk (put_new w0 w b 1 1 S l h [⟨#[34]⟩] #[.string ⟨#[34]⟩] rfl rfl (by omega) (by rw [cat34]; simp only [List.length_cons, List.length_nil]; omega))
  clear h hs hm hq
  go_enter Tryd.func28, Tryd.ntmps28
  go_wp2_with fail
  refine cP.out.mono ?_
  rintro e w5 ⟨rfl, a5, k5⟩
  have cE := Hid.mk (escaped_value w0 w5 b S _ a5 s hs5.out (by rw [List.length_append, cat34]; have := hm5.out; simp only [List.length_cons, List.length_nil]; omega))
  have K5 := Hid.mk k5
  clear a5 k5
  go_wp2_with fail
  refine cE.out.mono ?_
  rintro e w6 ⟨rfl, a6, k6⟩
  have cQ := Hid.mk (put_new w0 w6 b 1 1 S _ a6 [⟨#[34]⟩] #[.string ⟨#[34]⟩] rfl rfl (by omega) (by rw [List.length_append, List.length_append, cat34]; have := hm5.out; simp only [List.length_cons, List.length_nil]; omega))
  have K6 := Hid.mk (K5.out.trans k6)
  clear a6 k6
  go_wp2_with fail
  refine cQ.out.mono ?_
  rintro e w7 ⟨rfl, a7, k7⟩
  go_wp2_with fail
  go_end0
  refine ⟨rfl, ?_, K6.out.trans k7⟩
  have e5 : l ++ quoV s = l ++ cat [⟨#[34]⟩] ++ escL inV (bl s) ++ cat [⟨#[34]⟩] := by unfold quoV; rw [cat34]; simp
  rw [e5]
  exact a7
end Go.Proofs.YtjdcfaaoicnajaaDoor
