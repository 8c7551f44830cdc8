/-
  The document's own Name, Texts, Blank.
-/
import Derived.Test.YtjdcfaaoicnajaaDoorCNext
namespace Go.Proofs.YtjdcfaaoicnajaaDoor
open Go.RowKit Go.Maps

def isNc : Option (List Nat) → Bool
  | some rs => rs.all (fun q => nch q)
  | none => false
theorem tx_none {l : List UInt8} (hne : l ≠ []) (h : (nx l).2 = 0) : isTx (runes l) = false := by rw [runes_step l hne, if_pos h]; rfl
theorem tx_step {l : List UInt8} (hne : l ≠ []) (h : (nx l).2 ≠ 0) : isTx (runes l) = (txt ((nx l).1 : Nat) && isTx (runes (l.drop (nx l).2))) := by
  rw [runes_step l hne, if_neg h]
  cases runes (l.drop (nx l).2) with
  | none => simp [isTx]
  | some rs => rfl
theorem nc_none {l : List UInt8} (hne : l ≠ []) (h : (nx l).2 = 0) : isNc (runes l) = false := by rw [runes_step l hne, if_pos h]; rfl
theorem nc_step {l : List UInt8} (hne : l ≠ []) (h : (nx l).2 ≠ 0) : isNc (runes l) = (nch ((nx l).1 : Nat) && isNc (runes (l.drop (nx l).2))) := by
  rw [runes_step l hne, if_neg h]
  cases runes (l.drop (nx l).2) with
  | none => simp [isNc]
  | some rs => rfl
theorem nm_none {l : List UInt8} (hne : l ≠ []) (h : (nx l).2 = 0) : isNm (runes l) = false := by rw [runes_step l hne, if_pos h]; rfl
theorem nm_step {l : List UInt8} (hne : l ≠ []) (h : (nx l).2 ≠ 0) : isNm (runes l) = (nst ((nx l).1 : Nat) && isNc (runes (l.drop (nx l).2))) := by
  rw [runes_step l hne, if_neg h]
  cases runes (l.drop (nx l).2) with
  | none => simp [isNm, isNc]
  | some rs => rfl
theorem drop_ne (s : ByteArray) (p : Nat) (h : p < s.size) : (bl s).drop p ≠ [] := by
  intro e
  have := congrArg List.length e
  rw [List.length_drop, bl_length] at this
  simp at this
  omega
theorem drop_end (s : ByteArray) (p : Nat) (h : s.size ≤ p) : (bl s).drop p = [] := List.drop_eq_nil_of_le (by rw [bl_length]; exact h)

set_option maxHeartbeats 2000000 in
set_option maxRecDepth 100000 in
theorem refTexts_any (w : World) (s : ByteArray) (hz : s.size < 140737488355328) :
    Calls Tryd.prog 52 #[.string s] w fun e w' => e = .returned (.bool (textsB (bl s))) ∧ w' = w := by
  obtain ⟨ANS, hA⟩ : ∃ A, textsB (bl s) = A := ⟨_, rfl⟩
  rw [hA]
  have HA : Hid (isTx (runes ((bl s).drop 0)) = ANS) := hA
  clear hA
  go_enter Tryd.func52, Tryd.ntmps52
  go_wp2
  go_loopw [3] (fun i wr => ∃ p : Nat, p ≤ s.size ∧ i = .int .i64 p ∧ wr = w ∧ Hid (isTx (runes ((bl s).drop p)) = ANS)) (fun i _ => s.size - (intOf i).toNat)
  case atStart => exact ⟨0, by omega, rfl, rfl, HA⟩
  case round =>
    obtain ⟨p, hp, rfl, rfl, hL⟩ := hrel
    by_cases hlt : p < s.size
    · have hlt' : (p : Int) < (s.size : Int) := by omega
      have c := Hid.mk (next_any wr s p hlt hz)
      have hne := drop_ne s p hlt
      have hle := nx_le _ hne
      rw [List.length_drop, bl_length] at hle
      by_cases hn : (nx ((bl s).drop p)).2 = 0
      · have e := tx_none hne hn
        obtain rfl : false = ANS := e.symm.trans hL.out
        rw [hn] at c
        clear hne hle hn e hL
        generalize (nx ((bl s).drop p)).1 = R at c
        go_wp2_with (go_at_call 66; refine c.out.mono ?_; rintro e w5 ⟨rfl, rfl⟩)
        go_ret
        exact ⟨rfl, by first | rfl | trivial⟩
      · have e := tx_step hne hn
        rw [List.drop_drop] at e
        have hr := nx_rune ((bl s).drop p)
        generalize nx ((bl s).drop p) = T at c hn hle e hr
        obtain ⟨R, N⟩ := T
        simp only at c hn hle e hr
        have hnz : ¬ (N : Int) = 0 := by omega
        have hN : (N : Int) + (p : Int) ≤ (s.size : Int) := by omega
        have hN0 : 0 < N := by omega
        have cC := Hid.mk (refChar_any wr (R : Nat))
        cases ht : txt (R : Nat) with
        | false =>
          rw [ht, Bool.false_and] at e
          obtain rfl : false = ANS := e.symm.trans hL.out
          rw [ht] at cC
          clear hne hle hn e hL ht hr
          go_wp2_with (first | (go_at_call 66; refine c.out.mono ?_; rintro e w5 ⟨rfl, rfl⟩) | (go_at_call 67; refine cC.out.mono ?_; rintro e w5 ⟨rfl, rfl⟩))
          go_ret
          exact ⟨rfl, by first | rfl | trivial⟩
        | true =>
          rw [ht, Bool.true_and] at e
          have HE : Hid (isTx (runes ((bl s).drop (p + N))) = ANS) := e.symm.trans hL.out
          rw [ht] at cC
          have hw : wrap64 ((p : Int) + (N : Int)) = (p : Int) + (N : Int) := by unfold wrap64; omega
          clear hne hle hn e hL ht hr
          go_wp2_with (first | (go_at_call 66; refine c.out.mono ?_; rintro e w5 ⟨rfl, rfl⟩) | (go_at_call 67; refine cC.out.mono ?_; rintro e w5 ⟨rfl, rfl⟩))
          exact ⟨⟨p + N, by omega, by first | rfl | go_num, by first | rfl | trivial, HE⟩, by simp [intOf]; omega⟩
    · obtain rfl : p = s.size := by omega
      have hA : true = ANS := by
        have := hL.out
        rw [drop_end s s.size (Nat.le_refl _)] at this
        exact this
      subst hA
      go_wp2
      go_ret
      exact ⟨rfl, by first | rfl | trivial⟩

def nmAt (p : Nat) (o : Option (List Nat)) : Bool := if p = 0 then isNm o else isNc o
theorem nst_nch {r : Int} (h : nst r = true) : nch r = true := by unfold nch; rw [h]; rfl

set_option maxHeartbeats 4000000 in
set_option maxRecDepth 100000 in
theorem refName_in (w : World) (s : ByteArray) (h1 : 1 ≤ s.size) (h100 : s.size ≤ 100) :
    Calls Tryd.prog 53 #[.string s] w fun e w' => e = .returned (.bool (isNm (runes (bl s)))) ∧ w' = w := by
  obtain ⟨ANS, hA⟩ : ∃ A, isNm (runes (bl s)) = A := ⟨_, rfl⟩
  rw [hA]
  have HA : Hid (nmAt 0 (runes ((bl s).drop 0)) = ANS) := hA
  have h1z : ¬ (s.size : Int) < 1 := by omega
  have h100z : ¬ (100 : Int) < (s.size : Int) := by omega
  clear hA
  go_enter Tryd.func53, Tryd.ntmps53
  go_wp2
  go_loopw [3] (fun i wr => ∃ p : Nat, p ≤ s.size ∧ i = .int .i64 p ∧ wr = w ∧ Hid (nmAt p (runes ((bl s).drop p)) = ANS)) (fun i _ => s.size - (intOf i).toNat)
  case atStart => exact ⟨0, by omega, rfl, rfl, HA⟩
  case round =>
    obtain ⟨p, hp, rfl, rfl, hL⟩ := hrel
    by_cases hlt : p < s.size
    · have hlt' : (p : Int) < (s.size : Int) := by omega
      have c := Hid.mk (next_any wr s p hlt (by omega))
      have hne := drop_ne s p hlt
      have hle := nx_le _ hne
      rw [List.length_drop, bl_length] at hle
      by_cases hn : (nx ((bl s).drop p)).2 = 0
      · have e : nmAt p (runes ((bl s).drop p)) = false := by
          unfold nmAt
          split
          · exact nm_none hne hn
          · exact nc_none hne hn
        obtain rfl : false = ANS := e.symm.trans hL.out
        rw [hn] at c
        clear hne hle hn e hL
        generalize (nx ((bl s).drop p)).1 = R at c
        go_wp2_with (go_at_call 66; refine c.out.mono ?_; rintro e w5 ⟨rfl, rfl⟩)
        go_ret
        exact ⟨rfl, by first | rfl | trivial⟩
      · have en := nm_step hne hn
        have ec := nc_step hne hn
        rw [List.drop_drop] at en ec
        have hr := nx_rune ((bl s).drop p)
        generalize hT : nx ((bl s).drop p) = T at c hn hle en ec hr
        obtain ⟨R, N⟩ := T
        simp only at c hn hle en ec hr
        clear hT
        have hnz : ¬ (N : Int) = 0 := by omega
        have hN : (N : Int) + (p : Int) ≤ (s.size : Int) := by omega
        have hN0 : 0 < N := by omega
        have cC := Hid.mk (refMore_any wr (R : Nat))
        have cS := Hid.mk (refStart_any wr (R : Nat))
        have hw : wrap64 ((p : Int) + (N : Int)) = (p : Int) + (N : Int) := by unfold wrap64; omega
        by_cases hp0 : p = 0
        · subst hp0
          have hL2 : isNm (runes ((bl s).drop 0)) = ANS := hL.out
          rw [en] at hL2
          cases hs : nst (R : Nat) with
          | true =>
            rw [hs, Bool.true_and] at hL2
            have hc := nst_nch hs
            rw [hs] at cS
            rw [hc] at cC
            have HE : Hid (nmAt (0 + N) (runes ((bl s).drop (0 + N))) = ANS) := by
              show _ = _
              unfold nmAt
              rw [if_neg (by omega)]
              exact hL2
            clear hne hle hn en ec hL hL2 hr hs hc
            go_wp2_with (first | (go_at_call 66; refine c.out.mono ?_; rintro e w5 ⟨rfl, rfl⟩) | (go_at_call 68; refine cC.out.mono ?_; rintro e w5 ⟨rfl, rfl⟩) | (go_at_call 69; refine cS.out.mono ?_; rintro e w5 ⟨rfl, rfl⟩))
            exact ⟨⟨0 + N, by omega, by first | rfl | go_num | simp, by first | rfl | trivial, HE⟩, by simp [intOf]; omega⟩
          | false =>
            rw [hs, Bool.false_and] at hL2
            subst hL2
            rw [hs] at cS
            cases hc : nch (R : Nat) with
            | true =>
              rw [hc] at cC
              clear hne hle hn en ec hL hr hs hc
              go_wp2_with (first | (go_at_call 66; refine c.out.mono ?_; rintro e w5 ⟨rfl, rfl⟩) | (go_at_call 68; refine cC.out.mono ?_; rintro e w5 ⟨rfl, rfl⟩) | (go_at_call 69; refine cS.out.mono ?_; rintro e w5 ⟨rfl, rfl⟩))
              go_ret
              exact ⟨rfl, by first | rfl | trivial⟩
            | false =>
              rw [hc] at cC
              clear hne hle hn en ec hL hr hs hc
              go_wp2_with (first | (go_at_call 66; refine c.out.mono ?_; rintro e w5 ⟨rfl, rfl⟩) | (go_at_call 68; refine cC.out.mono ?_; rintro e w5 ⟨rfl, rfl⟩))
              go_ret
              exact ⟨rfl, by first | rfl | trivial⟩
        · have hpz : ¬ (p : Int) = 0 := by omega
          have hL2 : isNc (runes ((bl s).drop p)) = ANS := by
            have := hL.out
            unfold nmAt at this
            rw [if_neg hp0] at this
            exact this
          rw [ec] at hL2
          cases hc : nch (R : Nat) with
          | true =>
            rw [hc, Bool.true_and] at hL2
            rw [hc] at cC
            have HE : Hid (nmAt (p + N) (runes ((bl s).drop (p + N))) = ANS) := by
              show _ = _
              unfold nmAt
              rw [if_neg (by omega)]
              exact hL2
            clear hne hle hn en ec hL hL2 hr hc cS
            go_wp2_with (first | (go_at_call 66; refine c.out.mono ?_; rintro e w5 ⟨rfl, rfl⟩) | (go_at_call 68; refine cC.out.mono ?_; rintro e w5 ⟨rfl, rfl⟩))
            exact ⟨⟨p + N, by omega, by first | rfl | go_num, by first | rfl | trivial, HE⟩, by simp [intOf]; omega⟩
          | false =>
            rw [hc, Bool.false_and] at hL2
            subst hL2
            rw [hc] at cC
            clear hne hle hn en ec hL hr hc cS
            go_wp2_with (first | (go_at_call 66; refine c.out.mono ?_; rintro e w5 ⟨rfl, rfl⟩) | (go_at_call 68; refine cC.out.mono ?_; rintro e w5 ⟨rfl, rfl⟩))
            go_ret
            exact ⟨rfl, by first | rfl | trivial⟩
    · obtain rfl : p = s.size := by omega
      have hA : true = ANS := by
        have := hL.out
        rw [drop_end s s.size (Nat.le_refl _)] at this
        unfold nmAt at this
        rw [if_neg (by omega)] at this
        exact this
      subst hA
      go_wp2
      go_ret
      exact ⟨rfl, by first | rfl | trivial⟩

theorem refName_any (w : World) (s : ByteArray) :
    Calls Tryd.prog 53 #[.string s] w fun e w' => e = .returned (.bool (nameB (bl s))) ∧ w' = w := by
  unfold nameB
  rw [bl_length]
  by_cases h0 : s.size < 1
  · have e : (decide (s.size ≤ 100) && isNm (runes (bl s))) = false := by
      have : bl s = [] := List.eq_nil_of_length_eq_zero (by rw [bl_length]; omega)
      rw [this]
      simp [runes_nil, isNm]
    rw [e]
    have h0z : (s.size : Int) < 1 := by omega
    clear e
    go_enter Tryd.func53, Tryd.ntmps53
    go_wp2
    go_ret
    exact ⟨rfl, by first | rfl | trivial⟩
  · by_cases h1 : s.size ≤ 100
    · rw [decide_eq_true h1, Bool.true_and]
      exact refName_in w s (by omega) h1
    · rw [decide_eq_false h1, Bool.false_and]
      have h0z : ¬ (s.size : Int) < 1 := by omega
      have h1z : (100 : Int) < (s.size : Int) := by omega
      go_enter Tryd.func53, Tryd.ntmps53
      go_wp2
      go_ret
      exact ⟨rfl, by first | rfl | trivial⟩

theorem blank_step (l : List UInt8) (p : Nat) (h : p < l.length) : blankB (l.drop p) = (blk (l.getD p 0) && blankB (l.drop (p + 1))) := by
  rw [List.drop_eq_getElem_cons h]
  have : l.getD p 0 = l[p] := by simp [List.getD, h]
  rw [this]
  rfl
set_option maxHeartbeats 4000000 in
set_option maxRecDepth 100000 in
theorem refBlank_any (w : World) (s : ByteArray) (hz : s.size < 140737488355328) :
    Calls Tryd.prog 58 #[.string s] w fun e w' => e = .returned (.bool (blankB (bl s))) ∧ w' = w := by
  obtain ⟨ANS, hA⟩ : ∃ A, blankB (bl s) = A := ⟨_, rfl⟩
  rw [hA]
  have HA : Hid (blankB ((bl s).drop 0) = ANS) := hA
  clear hA
  go_enter Tryd.func58, Tryd.ntmps58
  go_wp2
  go_loopw [3] (fun i wr => ∃ p : Nat, p ≤ s.size ∧ i = .int .i64 p ∧ wr = w ∧ Hid (blankB ((bl s).drop p) = ANS)) (fun i _ => s.size - (intOf i).toNat)
  case atStart => exact ⟨0, by omega, rfl, rfl, HA⟩
  case round =>
    obtain ⟨p, hp, rfl, rfl, hL⟩ := hrel
    by_cases hlt : p < s.size
    · have hlt' : (p : Int) < (s.size : Int) := by omega
      have hp0 : (0 : Int) ≤ (p : Int) := by omega
      have hix := run_idx s (p : Int) p rfl hlt
      have e := blank_step (bl s) p (by rw [bl_length]; exact hlt)
      have hb : byteAt (bl s) p = (bl s).getD p 0 := rfl
      rw [hb] at hix
      clear hb
      obtain ⟨X, hX⟩ : ∃ X, ((bl s).getD p 0).toNat = X := ⟨_, rfl⟩
      rw [hX] at hix
      by_cases hk : X = 9 ∨ X = 10 ∨ X = 13 ∨ X = 32
      · have : blk ((bl s).getD p 0) = true := decide_eq_true (by rw [hX]; exact hk)
        rw [this, Bool.true_and] at e
        have HE : Hid (blankB ((bl s).drop (p + 1)) = ANS) := e.symm.trans hL.out
        clear e this hX hL
        rcases hk with rfl | rfl | rfl | rfl
        all_goals
          go_wp2
          exact ⟨⟨p + 1, by omega, by go_num, by first | rfl | trivial, HE⟩, by simp [intOf]; omega⟩
      · have : blk ((bl s).getD p 0) = false := decide_eq_false (by rw [hX]; exact hk)
        rw [this, Bool.false_and] at e
        obtain rfl : false = ANS := e.symm.trans hL.out
        have k1 : ((X : Int) != 9) = true := by rw [bne_iff_ne]; omega
        have k2 : ((X : Int) != 10) = true := by rw [bne_iff_ne]; omega
        have k3 : ((X : Int) != 13) = true := by rw [bne_iff_ne]; omega
        have k4 : ((X : Int) != 32) = true := by rw [bne_iff_ne]; omega
        clear e this hX hL hk
        go_wp2
        go_ret
        exact ⟨rfl, by first | rfl | trivial⟩
    · obtain rfl : p = s.size := by omega
      have hA : true = ANS := by
        have := hL.out
        rw [drop_end s s.size (Nat.le_refl _)] at this
        exact this
      subst hA
      go_wp2
      go_ret
      exact ⟨rfl, by first | rfl | trivial⟩
end Go.Proofs.YtjdcfaaoicnajaaDoor
