/-
  strings.EqualFold against "xml": of names beyond ASCII too.
-/
import Derived.Test.YtdfgmdddnehocabGreatDoorTRise
import Derived.WalkMore
import Derived.ScopeJumps
import Derived.Deep.LoopGhost
namespace Go.Proofs.YtdfgmdddnehocabGreatDoor
open Go.RowKit Go.Maps Go.Lib

theorem wp_scope_fwd {P : Program} {a : Act} {w : World} {Q : Exit → Act → World → Prop} {c rest : Code} (l : Nat) (hf : findLabel c l = some rest)
    (first : c.wp P (Exit.jump l (fun a w => rest.wp P (Exit.noGoto Q) a w) Q) a w) : (Code.scope c).wp P Q a w :=
  wp_scope_jumps l (fun a w => rest.wp P (Exit.noGoto Q) a w) (fun _ _ => 0) hf first (fun a w h b k cs => by
    obtain ⟨e, a', w', hq, hr⟩ := h b k cs
    refine ⟨e, a', w', ?_, hr⟩
    cases e <;> first | exact hq | exact False.elim hq)

theorem run_tail (s : ByteArray) (i : Int) (f : Nat) (hf : i = (f : Int)) (h : f ≤ s.size) (w : World) : (Instr.slice 9 (.string s) (some (.int .i64 i)) none none).run Tryz.prog w = .ok (.string (mkS ((bl s).drop f))) w := by
  subst hf
  rw [run_slice_string_from_if (P := Tryz.prog) w 9 s .i64 (f : Int) Tryz.underlying9]
  have e : s.extract f s.size = mkS ((bl s).drop f) := by
    have := ByteArray.extract_mk (bl s) f s.size
    have e2 : ByteArray.mk (bl s).toArray = s := rfl
    rw [e2] at this
    rw [this, List.take_of_length_le (by rw [List.length_drop, bl_length]; omega)]
    rfl
  simp [h, e]
theorem run_head (s : ByteArray) (i : Int) (m : Nat) (hm : i = (m : Int)) (h : m ≤ s.size) (w : World) : (Instr.slice 9 (.string s) none (some (.int .i64 i)) none).run Tryz.prog w = .ok (.string (mkS ((bl s).take m))) w := by
  subst hm
  rw [run_slice_string_to_if (P := Tryz.prog) w 9 s .i64 (m : Int) Tryz.underlying9]
  have e : s.extract 0 m = mkS ((bl s).take m) := by
    have := ByteArray.extract_mk (bl s) 0 m
    have e2 : ByteArray.mk (bl s).toArray = s := rfl
    rw [e2] at this
    rw [this]
    simp [mkS]
  simp [h, e]
theorem jump_noGoto {Q : Exit → Act → World → Prop} {a : Act} {w : World} (h : Q .ret a w) : Exit.noGoto Q .ret a w := h
theorem toList_eq (s : ByteArray) : s.toList = bl s := ByteArray.toList_eq s
theorem isEmpty_no {s : ByteArray} (h : 0 < s.size) : s.toList.isEmpty = false := by
  rw [toList_eq]
  cases hb : bl s with
  | nil => rw [← bl_length, hb] at h; exact absurd h (by simp)
  | cons a l => rfl
theorem isEmpty_yes {s : ByteArray} (h : s.size = 0) : s.toList.isEmpty = true := by
  rw [toList_eq]
  have : bl s = [] := List.eq_nil_of_length_eq_zero (by rw [bl_length]; exact h)
  rw [this]
  rfl
theorem fold_meas (v y : Nat) (h : v ≠ y) : (if RowKit.intOf (.int .i32 (y : Int)) = (y : Int) then 0 else 1) < (if RowKit.intOf (.int .i32 (v : Int)) = (y : Int) then 0 else 1) := by
  rw [if_pos (show RowKit.intOf (.int .i32 (y : Int)) = (y : Int) from rfl), if_neg (by show ¬ (v : Int) = (y : Int); omega)]
  decide
theorem jump_ret {l : Nat} {J : Act → World → Prop} {Q : Exit → Act → World → Prop} {a : Act} {w : World} (h : Q .ret a w) : Exit.jump l J Q .ret a w := h

/-- unicode's table of ASCII letters: the cells that are asked. -/
structure Folds (w : World) : Prop where
  x : w.cell? ⟨5, 120, none⟩ = some (.int .u16 88)
  X : w.cell? ⟨5, 88, none⟩ = some (.int .u16 120)
  m : w.cell? ⟨5, 109, none⟩ = some (.int .u16 77)
  M : w.cell? ⟨5, 77, none⟩ = some (.int .u16 109)
  l : w.cell? ⟨5, 108, none⟩ = some (.int .u16 76)
  L : w.cell? ⟨5, 76, none⟩ = some (.int .u16 108)
theorem Folds.kept {w w' : World} (h : Folds w) (f : Fr [] w w') : Folds w' :=
  ⟨cell_fr f (by simp) h.x, cell_fr f (by simp) h.X, cell_fr f (by simp) h.m, cell_fr f (by simp) h.M, cell_fr f (by simp) h.l, cell_fr f (by simp) h.L⟩

theorem sfold_any (w : World) (k v : Nat) (hk : k < 128) (hc : w.cell? ⟨5, k, none⟩ = some (.int .u16 (v : Int))) (hv : v < 128) :
    Calls Tryz.prog 110 #[.int .i32 (k : Int)] w fun e w' => e = .returned (.int .i32 (v : Int)) ∧ Fr [] w w' := by
  have h1 : ¬ (k : Int) < 0 := by omega
  have h2 : ¬ (1114111 : Int) < (k : Int) := by omega
  have h3 : (k : Int) < 128 := by omega
  have h0 : (0 : Int) ≤ (k : Int) := by omega
  go_enter Tryz.func110, Tryz.ntmps110
  go_wp2
  go_ret
  exact ⟨rfl, Fr.refl _ _⟩
set_option maxHeartbeats 8000000 in
set_option maxRecDepth 100000 in
theorem fold_high (w : World) (F : Folds w) (s : ByteArray) (hs : s.size ≤ 100) (j0 : Nat) (hj0 : j0 < s.size) (hh : 128 ≤ (byteAt (bl s) j0).toNat) :
    Calls Tryz.prog 102 #[.string s, .string ⟨#[120, 109, 108]⟩] w fun e w' => e = .returned (.bool false) ∧ Fr [] w w' := by
  obtain ⟨M, hM⟩ : ∃ M : Nat, min (s.size : Int) 3 = (M : Int) := ⟨min s.size 3, by omega⟩
  have hMs : M ≤ s.size := by omega
  have hM3 : M ≤ 3 := by omega
  have hMe : M = s.size ∨ M = 3 := by omega
  have HF := Hid.mk F
  clear F
  go_enter Tryz.func102, Tryz.ntmps102
  go_wp2
  refine wp_scope_fwd 0 rfl ?_
  go_wp2
  go_loopg [5] M (fun g s5 wx => w = wx ∧ ∃ i : Nat, i + g = M ∧ s5 = .int .i64 i ∧ ∀ j, j < i → (byteAt (bl s) j).toNat < 128)
  case atStart => exact ⟨rfl, 0, by omega, rfl, fun j hj => by omega⟩
  case round =>
    obtain ⟨rfl, i, hig, rfl, hinv⟩ := hrel
    have HI := Hid.mk hinv
    clear hinv hM
    cases gk with
    | zero =>
      have hiM : ¬ ((i : Int) < (M : Int)) := by omega
      obtain rfl : i = M := by omega
      have hne : ¬ s.size = 3 := fun e => by
        have := HI.out j0 (by omega)
        omega
      have hb : ((s.size : Int) == 3) = false := beq_eq_false_iff_ne.2 (by omega)
      go_wp2
      refine jump_ret ?_
      go_ret
      exact ⟨rfl, Fr.refl _ _⟩
    | succ g =>
      have hiM : (i : Int) < (M : Int) := by omega
      have hisz : (i : Int) < (s.size : Int) := by omega
      have hi3 : (i : Int) < 3 := by omega
      have hx0 := run_idx s (i : Int) i rfl (by omega) w
      obtain ⟨y, hyy, hy, hy3⟩ : ∃ y : Nat, Hid ((byteAt (bl ⟨#[120, 109, 108]⟩) i).toNat = y) ∧ (∀ w : World, (Instr.index 9 (.string ⟨#[120, 109, 108]⟩) (.int .i64 (i : Int))).run Tryz.prog w = .ok (.int .u8 (y : Int)) w) ∧ (y = 120 ∨ y = 109 ∨ y = 108) := by
        have : i = 0 ∨ i = 1 ∨ i = 2 := by omega
        rcases this with rfl | rfl | rfl
        · exact ⟨120, rfl, fun w => run_idx ⟨#[120, 109, 108]⟩ _ 0 rfl (by decide) w, Or.inl rfl⟩
        · exact ⟨109, rfl, fun w => run_idx ⟨#[120, 109, 108]⟩ _ 1 rfl (by decide) w, Or.inr (Or.inl rfl)⟩
        · exact ⟨108, rfl, fun w => run_idx ⟨#[120, 109, 108]⟩ _ 2 rfl (by decide) w, Or.inr (Or.inr rfl)⟩
      have hy0 := hy w
      obtain ⟨X, hX⟩ : ∃ X : Nat, (byteAt (bl s) i).toNat = X := ⟨_, rfl⟩
      have hX256 : X < 256 := by rw [← hX]; exact UInt8.toNat_lt _
      rw [hX] at hx0
      have HX := Hid.mk hX
      clear hX hy
      obtain ⟨z, HZ1, HZ2, hz, hzy⟩ : ∃ z : Nat, Hid (∀ w' : World, Fr [] w w' → w'.cell? ⟨5, y, none⟩ = some (.int .u16 (z : Int))) ∧ Hid (∀ w' : World, Fr [] w w' → w'.cell? ⟨5, z, none⟩ = some (.int .u16 (y : Int))) ∧ z < 128 ∧ z ≠ y := by
        rcases hy3 with rfl | rfl | rfl
        · exact ⟨88, fun w' f => (HF.out.kept f).x, fun w' f => (HF.out.kept f).X, by decide, by decide⟩
        · exact ⟨77, fun w' f => (HF.out.kept f).m, fun w' f => (HF.out.kept f).M, by decide, by decide⟩
        · exact ⟨76, fun w' f => (HF.out.kept f).l, fun w' f => (HF.out.kept f).L, by decide, by decide⟩
      have hor : bits .or .u8 (X : Int) (y : Int) = ((X ||| y : Nat) : Int) := u8_or_nat _ _ (by omega) (by omega)
      by_cases h128 : X < 128
      · have hor128 : ¬ ((128 : Int) ≤ ((X ||| y : Nat) : Int)) := by have := Nat.or_lt_two_pow (n := 7) h128 (show y < 2 ^ 7 by omega); omega
        go_wp2
        all_goals (try simp only [beq_iff_eq, beq_eq_false_iff_ne, ne_eq] at *)
        all_goals first
          | (go_roundg g
             case measure => omega
             case rel => exact ⟨rfl, i + 1, by omega, by first | rfl | simp, fun j hj => by
               by_cases e : j = i
               · subst e; rw [HX.out]; exact h128
               · exact HI.out j (by omega)⟩)
          | (refine jump_ret ?_
             go_ret
             exact ⟨rfl, Fr.refl _ _⟩)
      · have hor128 : ((128 : Int) ≤ ((X ||| y : Nat) : Int)) := by
          have : X ≤ X ||| y := Nat.left_le_or
          omega
        have ht1 := run_tail s (i : Int) i rfl (by omega) w
        have ht2 := run_tail ⟨#[120, 109, 108]⟩ (i : Int) i rfl (by show i ≤ 3; omega) w
        obtain ⟨S, hS⟩ : ∃ S, mkS ((bl s).drop i) = S := ⟨_, rfl⟩
        obtain ⟨T, hT⟩ : ∃ T, mkS ((bl (⟨#[120, 109, 108]⟩ : ByteArray)).drop i) = T := ⟨_, rfl⟩
        rw [hS] at ht1
        rw [hT] at ht2
        have hS0 : 0 < S.size := by rw [← hS, ← bl_length, bl_mkS, List.length_drop, bl_length]; omega
        have hSb : 128 ≤ (byteAt (bl S) 0).toNat := by
          rw [← hS, bl_mkS]
          have : byteAt ((bl s).drop i) 0 = byteAt (bl s) i := by simp [byteAt]
          rw [this, HX.out]
          omega
        have hT0 : 0 < T.size := by rw [← hT, ← bl_length, bl_mkS, List.length_drop]; show 0 < 3 - i; omega
        have hTy : (byteAt (bl T) 0).toNat = y := by
          rw [← hT, bl_mkS]
          have e : byteAt ((bl (⟨#[120, 109, 108]⟩ : ByteArray)).drop i) 0 = byteAt (bl ⟨#[120, 109, 108]⟩) i := by simp [byteAt]
          rw [e]
          exact hyy.out
        have hTb : ∀ w' : World, (Instr.index 9 (.string T) (.int .i64 0)).run Tryz.prog w' = .ok (.int .u8 (y : Int)) w' := fun w' => by
          rw [run_idx T 0 0 rfl hT0 w', hTy]
        have hTt := run_tail T 1 1 rfl (by omega)
        generalize mkS ((bl T).drop 1) = T2 at hTt
        have hTe : T.toList.isEmpty = false := isEmpty_no hT0
        clear hS hT
        go_wp2
        refine wp_goto ⟨rfl, ?_⟩
        go_wp2_with (first
          | (refine wp_range rfl _ rfl S rfl ?_; intro w2 it s3 i2 f2)
          | go_in)
        go_frame
        have frh : Hid (Fr [] w w2) := f2
        go_loopw [1] (fun s1 wr => s1 = .string T ∧ wr = w2) (fun _ _ => 0)
        case atStart => exact ⟨rfl, rfl⟩
        case round =>
          obtain ⟨rfl, rfl⟩ := hrel
          go_wp2_with (first
            | (refine wp_next rfl _ rfl it S 0 rfl i2 hS0 ?_; intro w3 cc pos' i3 hpp hc1 hc2 f3; have hcc := hc2 hSb; have f4 : Fr [] w w3 := frh.out.then f3 (fun i hi hm => by simp at hm; omega); have hcy : ((y : Int) == cc) = false := (by rw [beq_eq_false_iff_ne]; omega); have hcl : (y : Int) < cc := (by omega); have hc128 : ¬ cc < 128 := (by omega); clear hc1 hc2)
            | (go_at_call 110; refine (sfold_any _ y z (by omega) (HZ1.out _ f4) hz).mono ?_; rintro e w5 ⟨rfl, f5⟩)
            | go_in)
          have f6 := f4.trans f5
          have f6h := Hid.mk f6
          have hzyb : ((z : Int) != (y : Int)) = true := by rw [bne_iff_ne]; omega
          have hzl : (z : Int) < cc := by omega
          clear f6
          go_loopw [13] (fun s13 wr => ∃ v : Nat, s13 = .int .i32 (v : Int) ∧ (v = z ∨ v = y) ∧ Fr [] w wr) (fun s13 _ => if RowKit.intOf s13 = (y : Int) then 0 else 1)
          case atStart => exact ⟨z, rfl, Or.inl rfl, f6h.out⟩
          case round =>
            obtain ⟨v, rfl, hv, fr⟩ := hrel
            rcases hv with rfl | rfl
            · go_wp2_with (first
                | (go_at_call 110; refine (sfold_any _ v y (by omega) (HZ2.out _ fr) (by omega)).mono ?_; rintro e w6 ⟨rfl, f6⟩)
                | go_in)
              exact ⟨⟨y, rfl, Or.inr rfl, fr.trans f6⟩, fold_meas v y hzy⟩
            · go_wp2
              refine jump_noGoto ?_
              go_ret
              exact ⟨rfl, fr⟩
/-- of ASCII letters. -/
theorem fold_xml (l : List UInt8) (h : ∀ (j : Nat) b, l[j]? = some b → b.toNat < 128) : Lib.equalFold l [120, 109, 108] = xmlB l := by
  have key : ∀ x y : UInt8, x.toNat < 128 → (y = 120 ∨ y = 109 ∨ y = 108) → foldEq x y = (x == y || x == (y - 32)) := by
    intro x y hx hy
    have hb : ∀ z : UInt8, (x == z) = decide (x.toNat = z.toNat) := fun z => by
      by_cases e : x = z
      · subst e; simp
      · rw [beq_eq_false_iff_ne.2 e, decide_eq_false (fun h => e (UInt8.toNat_inj.1 h))]
    rw [hb, hb]
    unfold foldEq
    rcases hy with rfl | rfl | rfl
    · have e1 : (120 : UInt8).toNat = 120 := rfl
      have e2 : ((120 : UInt8) - 32).toNat = 88 := rfl
      rw [e1, e2, ← Bool.decide_or]
      exact decide_eq_decide.2 (by omega)
    · have e1 : (109 : UInt8).toNat = 109 := rfl
      have e2 : ((109 : UInt8) - 32).toNat = 77 := rfl
      rw [e1, e2, ← Bool.decide_or]
      exact decide_eq_decide.2 (by omega)
    · have e1 : (108 : UInt8).toNat = 108 := rfl
      have e2 : ((108 : UInt8) - 32).toNat = 76 := rfl
      rw [e1, e2, ← Bool.decide_or]
      exact decide_eq_decide.2 (by omega)
  unfold xmlB
  match l, h with
  | [], _ => rfl
  | [a], _ => simp [Lib.equalFold]
  | [a, b], _ => simp [Lib.equalFold]
  | [a, b, c], h =>
    have h0 := h 0 a rfl
    have h1 := h 1 b rfl
    have h2 := h 2 c rfl
    simp only [Lib.equalFold, key a 120 h0 (Or.inl rfl), key b 109 h1 (Or.inr (Or.inl rfl)), key c 108 h2 (Or.inr (Or.inr rfl))]
    simp [Bool.and_assoc]
  | a :: b :: c :: d :: r, _ => simp [Lib.equalFold]
theorem xml_high {l : List UInt8} {j : Nat} (hj : j < l.length) (h : 128 ≤ (byteAt l j).toNat) : xmlB l = false := by
  cases hx : xmlB l with
  | false => rfl
  | true =>
    exfalso
    unfold xmlB at hx
    simp only [Bool.and_eq_true, Bool.or_eq_true, decide_eq_true_eq, beq_iff_eq] at hx
    obtain ⟨⟨⟨h3, h0⟩, h1⟩, h2⟩ := hx
    unfold byteAt at h
    have : j = 0 ∨ j = 1 ∨ j = 2 := by omega
    rcases this with rfl | rfl | rfl
    · rcases h0 with e | e <;> rw [e] at h <;> exact absurd h (by decide)
    · rcases h1 with e | e <;> rw [e] at h <;> exact absurd h (by decide)
    · rcases h2 with e | e <;> rw [e] at h <;> exact absurd h (by decide)
theorem fold_any (w : World) (F : Folds w) (s : ByteArray) (hs : s.size ≤ 100) :
    Calls Tryz.prog 102 #[.string s, .string ⟨#[120, 109, 108]⟩] w fun e w' => e = .returned (.bool (xmlB (bl s))) ∧ Fr [] w w' := by
  by_cases h : ∃ j, j < s.size ∧ 128 ≤ (byteAt (bl s) j).toNat
  · obtain ⟨j, hj, hb⟩ := h
    rw [xml_high (by rw [bl_length]; exact hj) hb]
    exact fold_high w F s hs j hj hb
  · have has : ∀ (j : Nat) b, s.data.toList[j]? = some b → b.toNat < 128 := fun j b hb => by
      have hj : j < (bl s).length := (List.getElem?_eq_some_iff.1 hb).1
      have e : byteAt (bl s) j = b := by
        rw [byteAt_lt hj]
        exact (List.getElem?_eq_some_iff.1 hb).2
      rcases Nat.lt_or_ge b.toNat 128 with c | c
      · exact c
      · exact absurd ⟨j, by rw [← bl_length]; exact hj, by rw [e]; exact c⟩ h
    refine (Tryz.strings_EqualFold s ⟨#[120, 109, 108]⟩ w (by omega) has (by
      intro j b hb
      have hm : b ∈ [120, 109, 108] := List.mem_of_getElem? hb
      rcases List.mem_cons.1 hm with rfl | hm
      · decide
      · rcases List.mem_cons.1 hm with rfl | hm
        · decide
        · rcases List.mem_cons.1 hm with rfl | hm
          · decide
          · cases hm)).mono ?_
    rintro e w' ⟨rfl, rfl⟩
    exact ⟨by rw [show (ByteArray.mk #[120, 109, 108]).data.toList = [120, 109, 108] from rfl, fold_xml _ has]; rfl, Fr.refl _ _⟩
end Go.Proofs.YtdfgmdddnehocabGreatDoor
