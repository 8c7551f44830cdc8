/-
  The program's Name, Texts, Blank.
-/
import Derived.Test.YtdfgmdddnehocabGreatDoorCRefT
import Derived.Test.YtdfgmdddnehocabGreatDoorShelf
namespace Go.Proofs.YtdfgmdddnehocabGreatDoor
open Go.RowKit Go.Maps

/-- What lies in memory when a call begins: the table of characters, and the library's two tables. -/
structure LaidC (w : World) : Prop where
  spans : Spans w
  tabs : Lib.Utf8Tabs 2 3 w
theorem fr_below {w w' : World} (f : Fr [] w w') : Below w.heap.size w w' := f.below (Nat.le_refl _) (fun _ h => nomatch h)
theorem below_fr {w w' : World} (b : Below w.heap.size w w') : Fr [] w w' := ⟨b.os, b.tape, b.output, b.size, fun k hk _ => b.block k hk⟩
theorem LaidC.kept {w w' : World} (h : LaidC w) (f : Fr [] w w') : LaidC w' := ⟨h.spans.kept f, Utf8Tabs_below h.tabs (fr_below f)⟩
theorem valid_any (w : World) (L : LaidC w) (s : ByteArray) (hz : s.size < 140737488355328) :
    Calls Tryz.prog 107 #[.string s] w fun e w' => e = .returned (.bool (runes (bl s)).isSome) ∧ Fr [] w w' :=
  (Tryz.utf8_ValidString s w (by omega) L.tabs).mono fun e w' ⟨h1, h2⟩ => ⟨by rw [h1, validD_eq]; rfl, below_fr h2⟩

def itPos (w : World) (b : Nat) : Nat := match w.heap[b]? with | some (.stringIter _ p) => p | _ => 0
theorem IterAt.pos {w : World} {b : Nat} {s : ByteArray} {p : Nat} (h : IterAt w b s p) : itPos w b = p := by
  have h' : w.heap[b]? = some (.stringIter s p) := h
  unfold itPos
  rw [h']

section
variable {ops : Array Oper} {rest : List Oper} {o : Oper} {a : Act} {w : World} {Q : Exit → Act → World → Prop}
theorem wp_nextU (hgd : o.guard = none) (x : Operand) (ho : o.op = .next x true) (b : Nat) (s : ByteArray) (pos : Nat) (hx : a.eval x = .pointer (some ⟨b, 0, none⟩)) (hi : IterAt w b s pos) (hp : pos < s.size) (R N : Nat) (hd : Lib.decodeL ((bl s).drop pos) = (R, N))
    (h : ∀ w', IterAt w' b s (pos + N) → Fr [b] w w' → wpList Tryz.prog ops Q rest (a.put o.dst (.tuple #[.bool true, .int .i64 pos, .int .i32 R])) w') : wpList Tryz.prog ops Q (o :: rest) a w :=
  wpList_plain hgd fun K hK => by
    have hd2 : Utf8.decode s pos = (R, N) := (Lib.decodeL_drop s pos).symm.trans hd
    have hi' : w.heap[b]? = some (.stringIter s pos) := hi
    have hrun : (Instr.next (.pointer (some ⟨b, 0, none⟩)) true o.type).run Tryz.prog w = .ok (.tuple #[.bool true, .int .i64 pos, .int .i32 ((Utf8.decode s pos).1 : Int)]) { w with heap := w.heap.setIfInBounds b (.stringIter s (pos + (Utf8.decode s pos).2)) } := by
      simp [Instr.next, getObj, setObj, Sem.run, hi', hp, goInt, Result.andThen]
    unfold Oper.wp execOp
    simp only [ho, hx, hrun, Result.andThen, Sem.run_bind]
    rw [hd2]
    refine hK _ _ (h _ ?_ ?_)
    · unfold IterAt
      simp [hi.lt]
    · exact ⟨rfl, rfl, rfl, by simp, fun i _ hn => by simp at hn; simp [show ¬ b = i from fun e => hn e.symm]⟩
end

/-- a text that is right, from a place on. -/
theorem rest_step {l : List UInt8} {rs : List Nat} (hne : l ≠ []) (h : runes l = some rs) : ∃ R N rs', Lib.decodeL l = (R, N) ∧ 0 < N ∧ N ≤ l.length ∧ rs = R :: rs' ∧ runes (l.drop N) = some rs' := by
  rw [runes_step l hne] at h
  by_cases h0 : (nx l).2 = 0
  · rw [if_pos h0] at h; cases h
  · rw [if_neg h0] at h
    cases hr : runes (l.drop (nx l).2) with
    | none => rw [hr] at h; cases h
    | some us =>
      rw [hr] at h
      exact ⟨(nx l).1, (nx l).2, us, ((nx_dec l hne).2 h0).1, by omega, nx_le l hne, (Option.some.inj h).symm, hr⟩

set_option maxHeartbeats 4000000 in
set_option maxRecDepth 100000 in
theorem texts_any (w : World) (L : LaidC w) (s : ByteArray) (hz : s.size < 140737488355328) :
    Calls Tryz.prog 103 #[.string s] w fun e w' => e = .returned (.bool (textsB (bl s))) ∧ Fr [] w w' := by
  have cV := Hid.mk (valid_any w L s hz)
  unfold textsB
  cases hr : runes (bl s) with
  | none =>
    rw [hr] at cV
    show Calls _ _ _ _ fun e w' => e = .returned (.bool false) ∧ Fr [] w w'
    clear hr L
    go_enter Tryz.func103, Tryz.ntmps103
    go_wp2_with (go_at_call 107; refine cV.out.mono ?_; rintro e w5 ⟨rfl, f5⟩; simp only [Option.isSome])
    go_ret
    exact ⟨rfl, f5⟩
  | some rs0 =>
    rw [hr] at cV
    obtain ⟨ANS, hA⟩ : ∃ A, isTx (some rs0) = A := ⟨_, rfl⟩
    rw [hA]
    have HR : Hid (runes ((bl s).drop 0) = some rs0) := hr
    have HA : Hid (rs0.all (fun q => txt q) = ANS) := hA
    have HL : Hid (LaidC w) := L
    clear hA hr L
    go_enter Tryz.func103, Tryz.ntmps103
    go_wp2_with (first
      | (go_at_call 107; refine cV.out.mono ?_; rintro e w5 ⟨rfl, f5⟩; simp only [Option.isSome])
      | (refine wp_range rfl _ rfl s rfl ?_; intro w2 it s3 i2 f2; have g2 := f5.trans f2; have s4 : w.heap.size ≤ it := Nat.le_trans f5.size s3)
      | go_in)
    go_frame
    go_loopw [] (fun wr => ∃ pos rs, pos ≤ s.size ∧ IterAt wr it s pos ∧ Hid (runes ((bl s).drop pos) = some rs) ∧ Hid (rs.all (fun q => txt q) = ANS) ∧ Fr [] w wr) (fun wr => s.size - itPos wr it)
    case atStart => exact ⟨0, rs0, by omega, i2, HR, HA, g2⟩
    case round =>
      obtain ⟨pos, rs, hpos, ir, hR, hN, fr⟩ := hrel
      have HI := Hid.mk ir.pos
      by_cases hlt : pos < s.size
      · have hlt' : (pos : Int) < (s.size : Int) := by omega
        obtain ⟨R, N, rs', hd, hN0, hNl, rfl, hR'⟩ := rest_step (drop_ne s pos hlt) hR.out
        rw [List.length_drop, bl_length] at hNl
        rw [List.drop_drop] at hR'
        have HR' := Hid.mk hR'
        have HD := Hid.mk hd
        have hN2 : (txt (R : Nat) && rs'.all (fun q => txt q)) = ANS := hN.out
        have frh := Hid.mk fr
        clear hR' hd hN hR fr
        cases ht : txt (R : Nat) with
        | false =>
          rw [ht, Bool.false_and] at hN2
          subst hN2
          have HT := Hid.mk ht
          clear ht
          go_wp2_with (first
            | (refine wp_nextU rfl _ rfl it s pos rfl ir hlt R N HD.out ?_; intro w3 i3 f3; have f4 : Fr [] w w3 := frh.out.then f3 (fun i hi hm => by simp at hm; omega))
            | (go_at_call 111; refine (char_any _ (HL.out.kept f4).spans _).mono ?_; rw [HT.out]; rintro e w5 ⟨rfl, f5⟩)
            | go_in)
          go_ret
          exact ⟨rfl, f4.trans f5⟩
        | true =>
          rw [ht, Bool.true_and] at hN2
          have HN := Hid.mk hN2
          have HT := Hid.mk ht
          clear ht hN2
          go_wp2_with (first
            | (refine wp_nextU rfl _ rfl it s pos rfl ir hlt R N HD.out ?_; intro w3 i3 f3; have f4 : Fr [] w w3 := frh.out.then f3 (fun i hi hm => by simp at hm; omega))
            | (go_at_call 111; refine (char_any _ (HL.out.kept f4).spans _).mono ?_; rw [HT.out]; rintro e w5 ⟨rfl, f5⟩)
            | go_in)
          have i5 := i3.kept f5 (by simp)
          exact ⟨⟨pos + N, rs', by omega, i5, HR', HN, f4.trans f5⟩, by rw [i5.pos, HI.out]; omega⟩
      · obtain rfl : pos = s.size := by omega
        have hA : true = ANS := by
          have h1 := hR.out
          rw [drop_end s s.size (Nat.le_refl _), runes_nil] at h1
          cases h1
          exact hN.out
        subst hA
        go_wp2_with (refine wp_next_end rfl _ rfl it s _ rfl ir (by omega) ?_)
        go_ret
        exact ⟨rfl, fr⟩

theorem lt_cast (a k : Nat) : decide ((a : Int) < (k : Int)) = !decide (k ≤ a) := by
  by_cases h : k ≤ a
  · rw [decide_eq_true h, decide_eq_false (by omega)]; rfl
  · rw [decide_eq_false h, decide_eq_true (by omega)]; rfl
set_option maxHeartbeats 4000000 in
set_option maxRecDepth 100000 in
theorem name_in (w : World) (L : LaidC w) (s : ByteArray) (h1 : 1 ≤ s.size) (h100 : s.size ≤ 100) :
    Calls Tryz.prog 101 #[.string s] w fun e w' => e = .returned (.bool (isNm (runes (bl s)))) ∧ Fr [] w w' := by
  have cV := Hid.mk (valid_any w L s (by omega))
  have h1z : ((s.size : Int) == 0) = false := by rw [beq_eq_false_iff_ne]; omega
  have h100z : ¬ (100 : Int) < (s.size : Int) := by omega
  cases hr : runes (bl s) with
  | none =>
    rw [hr] at cV
    show Calls _ _ _ _ fun e w' => e = .returned (.bool false) ∧ Fr [] w w'
    clear hr L
    go_enter Tryz.func101, Tryz.ntmps101
    go_wp2_with (go_at_call 107; refine cV.out.mono ?_; rintro e w5 ⟨rfl, f5⟩; simp only [Option.isSome])
    go_ret
    exact ⟨rfl, f5⟩
  | some rs0 =>
    rw [hr] at cV
    obtain ⟨ANS, hA⟩ : ∃ A, isNm (some rs0) = A := ⟨_, rfl⟩
    rw [hA]
    have HR : Hid (runes ((bl s).drop 0) = some rs0) := hr
    have HA : Hid (nameFrom 3 rs0 = ANS) := by
      cases rs0 with
      | nil =>
        exfalso
        obtain ⟨R, N, rs', _, _, _, e, _⟩ := rest_step (drop_ne s 0 (by omega)) hr
        cases e
      | cons r rs => exact (nameFrom_three r rs).trans hA
    have HL : Hid (LaidC w) := L
    clear hA hr L
    go_enter Tryz.func101, Tryz.ntmps101
    go_wp2_with (first
      | (go_at_call 107; refine cV.out.mono ?_; rintro e w5 ⟨rfl, f5⟩; simp only [Option.isSome])
      | (refine wp_range rfl _ rfl s rfl ?_; intro w2 it s3 i2 f2; have g2 := f5.trans f2; have s4 : w.heap.size ≤ it := Nat.le_trans f5.size s3)
      | go_in)
    try go_frame
    go_loopw [3] (fun lv wr => ∃ (pos k : Nat) (rs : List Nat), pos ≤ s.size ∧ lv = .int .u8 k ∧ IterAt wr it s pos ∧ Hid (runes ((bl s).drop pos) = some rs) ∧ Hid (nameFrom k rs = ANS) ∧ Fr [] w wr) (fun _ wr => s.size - itPos wr it)
    case atStart => exact ⟨0, 3, rs0, by omega, rfl, i2, HR, HA, g2⟩
    case round =>
      obtain ⟨pos, k, rs, hpos, rfl, ir, hR, hN, fr⟩ := hrel
      have HI := Hid.mk ir.pos
      by_cases hlt : pos < s.size
      · have hlt' : (pos : Int) < (s.size : Int) := by omega
        obtain ⟨R, N, rs', hd, hN0, hNl, rfl, hR'⟩ := rest_step (drop_ne s pos hlt) hR.out
        rw [List.length_drop, bl_length] at hNl
        rw [List.drop_drop] at hR'
        have HR' := Hid.mk hR'
        have HD := Hid.mk hd
        have hN2 : (decide (k ≤ what (R : Nat)) && nameFrom 2 rs') = ANS := hN.out
        have frh := Hid.mk fr
        clear hR' hd hN hR fr
        obtain ⟨V, HV⟩ : ∃ V, Hid (what (R : Nat) = V) := ⟨_, rfl⟩
        rw [HV.out] at hN2
        by_cases ht : k ≤ V
        · rw [decide_eq_true ht, Bool.true_and] at hN2
          have HN := Hid.mk hN2
          have htz : ¬ (V : Int) < (k : Int) := by omega
          clear hN2 ht
          go_wp2_with (first
            | (refine wp_nextU rfl _ rfl it s pos rfl ir hlt R N HD.out ?_; intro w3 i3 f3; have f4 : Fr [] w w3 := frh.out.then f3 (fun i hi hm => by simp at hm; omega))
            | (go_at_call 108; refine (whatIs_any _ (HL.out.kept f4).spans _).mono ?_; rw [HV.out]; rintro e w5 ⟨rfl, f5⟩)
            | go_in)
          have i5 := i3.kept f5 (by simp)
          exact ⟨⟨pos + N, 2, rs', by omega, rfl, i5, HR', HN, f4.trans f5⟩, by rw [i5.pos, HI.out]; omega⟩
        · rw [decide_eq_false ht, Bool.false_and] at hN2
          subst hN2
          have htz : (V : Int) < (k : Int) := by omega
          clear ht
          go_wp2_with (first
            | (refine wp_nextU rfl _ rfl it s pos rfl ir hlt R N HD.out ?_; intro w3 i3 f3; have f4 : Fr [] w w3 := frh.out.then f3 (fun i hi hm => by simp at hm; omega))
            | (go_at_call 108; refine (whatIs_any _ (HL.out.kept f4).spans _).mono ?_; rw [HV.out]; rintro e w5 ⟨rfl, f5⟩)
            | go_in)
          go_ret
          exact ⟨rfl, f4.trans f5⟩
      · obtain rfl : pos = s.size := by omega
        have hA : true = ANS := by
          have h1 := hR.out
          rw [drop_end s s.size (Nat.le_refl _), runes_nil] at h1
          cases h1
          exact hN.out
        subst hA
        go_wp2_with (refine wp_next_end rfl _ rfl it s _ rfl ir (by omega) ?_)
        go_ret
        exact ⟨rfl, fr⟩

theorem name_any (w : World) (L : LaidC w) (s : ByteArray) :
    Calls Tryz.prog 101 #[.string s] w fun e w' => e = .returned (.bool (nameB (bl s))) ∧ Fr [] w w' := by
  unfold nameB
  rw [bl_length]
  by_cases h0 : s.size < 1
  · have e : (decide (s.size ≤ 100) && isNm (runes (bl s))) = false := by
      have : bl s = [] := List.eq_nil_of_length_eq_zero (by rw [bl_length]; omega)
      rw [this]
      simp [runes_nil, isNm]
    rw [e]
    have h0z : ((s.size : Int) == 0) = true := by rw [beq_iff_eq]; omega
    clear e L
    go_enter Tryz.func101, Tryz.ntmps101
    go_wp2
    go_ret
    exact ⟨rfl, Fr.refl _ _⟩
  · by_cases h1 : s.size ≤ 100
    · rw [decide_eq_true h1, Bool.true_and]
      exact name_in w L s (by omega) h1
    · rw [decide_eq_false h1, Bool.false_and]
      have h0z : ((s.size : Int) == 0) = false := by rw [beq_eq_false_iff_ne]; omega
      have h1z : (100 : Int) < (s.size : Int) := by omega
      clear L
      go_enter Tryz.func101, Tryz.ntmps101
      go_wp2
      go_ret
      exact ⟨rfl, Fr.refl _ _⟩

set_option maxHeartbeats 4000000 in
set_option maxRecDepth 100000 in
theorem blank_any (w : World) (s : ByteArray) (hz : s.size < 140737488355328) :
    Calls Tryz.prog 106 #[.string s] w fun e w' => e = .returned (.bool (blankB (bl s))) ∧ Fr [] w w' := by
  obtain ⟨ANS, hA⟩ : ∃ A, blankB (bl s) = A := ⟨_, rfl⟩
  rw [hA]
  have HA : Hid (blankB ((bl s).drop 0) = ANS) := hA
  clear hA
  go_enter Tryz.func106, Tryz.ntmps106
  go_wp2_with (first
    | (refine wp_range rfl _ rfl s rfl ?_; intro w2 it s3 i2 f2)
    | go_in)
  go_frame
  go_loopw [] (fun wr => ∃ pos, pos ≤ s.size ∧ IterAt wr it s pos ∧ Hid (blankB ((bl s).drop pos) = ANS) ∧ Fr [] w wr) (fun wr => s.size - itPos wr it)
  case atStart => exact ⟨0, by omega, i2, HA, f2⟩
  case round =>
    obtain ⟨pos, hpos, ir, hL, fr⟩ := hrel
    have HI := Hid.mk ir.pos
    by_cases hlt : pos < s.size
    · have hlt' : (pos : Int) < (s.size : Int) := by omega
      have e := blank_step (bl s) pos (by rw [bl_length]; exact hlt)
      have hb : byteAt (bl s) pos = (bl s).getD pos 0 := rfl
      have frh := Hid.mk fr
      clear fr
      obtain ⟨X, hX⟩ : ∃ X, ((bl s).getD pos 0).toNat = X := ⟨_, rfl⟩
      have HB : Hid ((byteAt (bl s) pos).toNat = X) := by show _ = _; rw [hb, hX]
      clear hb
      by_cases hk : X = 9 ∨ X = 10 ∨ X = 13 ∨ X = 32
      · have : blk ((bl s).getD pos 0) = true := decide_eq_true (by rw [hX]; exact hk)
        rw [this, Bool.true_and] at e
        have HE : Hid (blankB ((bl s).drop (pos + 1)) = ANS) := e.symm.trans hL.out
        clear e this hX hL
        rcases hk with rfl | rfl | rfl | rfl
        all_goals
          go_wp2_with (refine wp_next rfl _ rfl it s pos rfl ir hlt ?_)
          intro w3 c pos' i3 hpp hc1 hc2 f3
          rw [HB.out] at hc1
          obtain ⟨hc, rfl⟩ := hc1 (by decide)
          subst hc
          have f4 : Fr [] w w3 := frh.out.then f3 (fun i hi hm => by simp at hm; omega)
          clear hc1 hc2 hpp
          go_wp2
          exact ⟨⟨pos + 1, by omega, i3, HE, f4⟩, by rw [i3.pos, HI.out]; omega⟩
      · have : blk ((bl s).getD pos 0) = false := decide_eq_false (by rw [hX]; exact hk)
        rw [this, Bool.false_and] at e
        obtain rfl : false = ANS := e.symm.trans hL.out
        clear e this hX hL
        have HK := Hid.mk hk
        clear hk
        go_wp2_with (refine wp_next rfl _ rfl it s pos rfl ir hlt ?_)
        intro w3 c pos' i3 hpp hc1 hc2 f3
        have f4 : Fr [] w w3 := frh.out.then f3 (fun i hi hm => by simp at hm; omega)
        rw [HB.out] at hc1 hc2
        have hkk : c ≠ 9 ∧ c ≠ 10 ∧ c ≠ 13 ∧ c ≠ 32 := by
          have := HK.out
          by_cases x : X < 128
          · have := (hc1 x).1
            omega
          · have := hc2 (by omega)
            omega
        have k1 : (c != 9) = true := by rw [bne_iff_ne]; exact hkk.1
        have k2 : (c != 10) = true := by rw [bne_iff_ne]; exact hkk.2.1
        have k3 : (c != 13) = true := by rw [bne_iff_ne]; exact hkk.2.2.1
        have k4 : (c != 32) = true := by rw [bne_iff_ne]; exact hkk.2.2.2
        clear hc1 hc2 hpp hkk
        go_wp2
        go_ret
        exact ⟨rfl, f4⟩
    · obtain rfl : pos = s.size := by omega
      have hA : true = ANS := by
        have := hL.out
        rw [drop_end s s.size (Nat.le_refl _)] at this
        exact this
      subst hA
      go_wp2_with (refine wp_next_end rfl _ rfl it s _ rfl ir (by omega) ?_)
      go_ret
      exact ⟨rfl, fr⟩
end Go.Proofs.YtdfgmdddnehocabGreatDoor
