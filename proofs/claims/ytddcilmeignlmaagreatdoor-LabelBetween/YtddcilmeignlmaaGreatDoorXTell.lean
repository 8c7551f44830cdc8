/-
  LabelTells: the program's Above where one is no label; where there is nothing to tell.
-/
import Derived.Test.YtddcilmeignlmaaGreatDoorLRSteps
import Derived.Test.YtddcilmeignlmaaGreatDoorLIns
import Derived.Test.YtddcilmeignlmaaGreatDoorAft
import Derived.Test.YtddcilmeignlmaaGreatDoorLAw
namespace Go.Proofs.YtddcilmeignlmaaGreatDoor
open Go.RowKit Go.Maps Go.Lib

/-! ### what is told of a label -/
def IsRight (l : List UInt8) (b : Bool) : Prop := b = true ↔ ∃ ss, Lab l ss
theorem IsRight.one {l : List UInt8} {a b : Bool} (h : IsRight l a) (g : IsRight l b) : a = b := Bool.eq_iff_iff.2 (h.trans g.symm)
def IsLevel (l : List UInt8) (n : Int) : Prop := (∃ ss, Lab l ss ∧ n = (ss.length : Int)) ∨ ((∀ ss, ¬ Lab l ss) ∧ n = 0)
theorem IsLevel.one {l : List UInt8} {a b : Int} (h : IsLevel l a) (g : IsLevel l b) : a = b := by
  rcases h with ⟨ss, L, rfl⟩ | ⟨h, rfl⟩ <;> rcases g with ⟨tt, M, rfl⟩ | ⟨g, rfl⟩
  · rw [lab_unique L M]
  · exact absurd L (g ss)
  · exact absurd M (h tt)
  · rfl
def IsParent (l P : List UInt8) (ok : Bool) : Prop := (∃ ss, ss ≠ [] ∧ Lab l ss ∧ Lab P ss.dropLast ∧ ok = true) ∨ ((∀ ss, Lab l ss → ss = []) ∧ P = [] ∧ ok = false)
theorem IsParent.one {l P Q : List UInt8} {a b : Bool} (h : IsParent l P a) (g : IsParent l Q b) : P = Q ∧ a = b := by
  rcases h with ⟨ss, hne, L, LP, rfl⟩ | ⟨h, rfl, rfl⟩ <;> rcases g with ⟨tt, gne, M, MQ, rfl⟩ | ⟨g, rfl, rfl⟩
  · obtain rfl := lab_unique L M
    exact ⟨lab_same LP MQ, rfl⟩
  · exact absurd (g ss L) hne
  · exact absurd (h tt M) gne
  · exact ⟨rfl, rfl⟩
theorem IsParent.len {l P : List UInt8} {ok : Bool} (h : IsParent l P ok) : P.length ≤ 1000000 := by
  rcases h with ⟨ss, _, _, LP, _⟩ | ⟨_, rfl, _⟩
  · have := lab_len LP; omega
  · simp
def IsAfter (l A : List UInt8) : Prop := (∃ ss, ss ≠ [] ∧ Lab l ss ∧ Rep (mkS A) (endR ss).length (endR ss)) ∨ ((∀ ss, Lab l ss → ss = []) ∧ A = [])
theorem IsAfter.one {l A B : List UInt8} (h : IsAfter l A) (g : IsAfter l B) : A = B := by
  rcases h with ⟨ss, hne, L, R⟩ | ⟨h, rfl⟩ <;> rcases g with ⟨tt, gne, M, S⟩ | ⟨g, rfl⟩
  · obtain rfl := lab_unique L M
    have := (R.unique S).1
    exact congrArg bl this
  · exact absurd (g ss L) hne
  · exact absurd (h tt M) gne
  · rfl
theorem endR_len (ss : List (List Bool)) (h : ss ≠ []) : (endR ss).length = (enc ss).length := by
  have : 0 < ss.length := List.length_pos_iff.2 h
  have := len_le_enc ss
  unfold endR
  rw [List.length_append, List.length_dropLast, List.length_singleton]
  omega
theorem IsAfter.len {l A : List UInt8} (h : IsAfter l A) : A.length ≤ 1000000 := by
  rcases h with ⟨ss, hne, L, R⟩ | ⟨_, rfl⟩
  · have h1 := R.bl_len
    rw [bl_mkS, endR_len ss hne] at h1
    have := L.most
    omega
  · simp

/-! ### the document's own -/
set_option maxHeartbeats 1000000 in
theorem rright_any (w : World) (ad : Option Addr) (m c : Nat) (l : List UInt8) (hl : l.length = m) (hb : BytesAt w ad l) :
    Calls Tryz.prog 11 #[.slice ad m c] w fun e w' => ∃ b, e = .returned (.bool b) ∧ IsRight l b ∧ Fr [] w w' := by
  have cS := Lib.hid (rsteps_any w ad m c l hl hb)
  clear hl hb
  go_enter Tryz.func11, Tryz.ntmps11
  go_wp2_with (go_at_call 31; refine cS.out.mono ?_; rintro e w1 ⟨⟨v, ss, L, rfl, hS⟩ | ⟨hno, rfl⟩, f1⟩)
  · go_ret
    exact ⟨true, rfl, ⟨fun _ => ⟨ss, L⟩, fun _ => rfl⟩, f1⟩
  · go_ret
    exact ⟨false, rfl, ⟨fun h => (Bool.false_ne_true h).elim, fun ⟨ss, h⟩ => absurd h (hno ss)⟩, f1⟩
set_option maxHeartbeats 1000000 in
theorem rlevel_any (w : World) (ad : Option Addr) (m c : Nat) (l : List UInt8) (hl : l.length = m) (hb : BytesAt w ad l) :
    Calls Tryz.prog 14 #[.slice ad m c] w fun e w' => ∃ n, e = .returned (.int .i64 n) ∧ IsLevel l n ∧ Fr [] w w' := by
  have cS := Lib.hid (rsteps_any w ad m c l hl hb)
  clear hl hb
  go_enter Tryz.func14, Tryz.ntmps14
  go_wp2_with (go_at_call 31; refine cS.out.mono ?_; rintro e w1 ⟨⟨v, ss, L, rfl, hS⟩ | ⟨hno, rfl⟩, f1⟩; (obtain ⟨ads, caps, rfl, hS1⟩ := hS.row; rw [List.length_map]))
  · go_ret
    exact ⟨_, rfl, Or.inl ⟨ss, L, rfl⟩, f1⟩
  · go_ret
    exact ⟨0, rfl, Or.inr ⟨hno, rfl⟩, f1⟩
theorem strAt_take {w : World} {ad : Option Addr} {L : List ByteArray} (h : StrAt w ad L) (k : Nat) : StrAt w ad (L.take k) := by
  intro j x hx
  rw [List.getElem?_take] at hx
  split at hx
  · exact h j x hx
  · cases hx
theorem enc_dropLast_le (ss : List (List Bool)) : (enc ss.dropLast).length ≤ (enc ss).length := by
  rw [List.dropLast_eq_take]
  exact enc_take_le ss _
set_option maxHeartbeats 2000000 in
set_option maxRecDepth 100000 in
theorem rparent_yes (w : World) (ad : Option Addr) (m c : Nat) (l : List UInt8) (hl : l.length = m) (hb : BytesAt w ad l) (ss : List (List Bool)) (L : Lab l ss) (hne : ss ≠ []) :
    Calls Tryz.prog 9 #[.slice ad m c] w fun e w' => ∃ v P, e = .returned (.tuple #[v, .bool true]) ∧ Lab P ss.dropLast ∧ Out w w' v P ∧ Fr [] w w' := by
  have cS : Hid (Calls Tryz.prog 31 #[.slice ad m c] w fun e w' => ∃ g cap, e = .returned (.tuple #[.slice (some ⟨g, 0, none⟩) ss.length cap, .bool true]) ∧ ss.length ≤ cap ∧ StrAt w' (some ⟨g, 0, none⟩) (ss.map sT) ∧ Fr [] w w') := by
    refine (rsteps_any w ad m c l hl hb).mono ?_
    rintro e w' ⟨⟨v, tt, M, rfl, hS⟩ | ⟨hn, _⟩, f⟩
    · obtain rfl := lab_unique L M
      obtain ⟨a, cap, rfl, hh⟩ := hS.shape
      rcases hh with ⟨_, e⟩ | ⟨g, rfl, _, hcap, hc⟩
      · exact absurd (List.map_eq_nil_iff.1 e) hne
      · refine ⟨g, cap, by rw [List.length_map], by rw [List.length_map] at hcap; exact hcap, fun j x hx => ⟨g, 0, rfl, hc j x hx⟩, f⟩
    · exact absurd L (hn ss)
  have HL := Lib.hid L
  have hp : 0 < ss.length := List.length_pos_iff.2 hne
  have hle := len_le_enc ss
  have hms := L.most
  obtain ⟨n, hn⟩ : ∃ n, ss.length = n := ⟨_, rfl⟩
  have HN := Lib.hid hn
  rw [hn] at cS hp hle
  have hn0 : (0 : Int) < (n : Int) := by omega
  have hn1 : (n : Int) ≤ 1024 := by omega
  have hn2 : ((n : Int) == 0) = false := by simp; omega
  obtain ⟨n', hn'⟩ : ∃ n' : Nat, (n : Int) - 1 = (n' : Int) := ⟨n - 1, by omega⟩
  have HN' := Lib.hid (show n - 1 = n' by omega)
  clear hl hb L hne hn hle hms
  go_enter Tryz.func9, Tryz.ntmps9
  go_wp2_with (first
    | (go_at_call 31; refine cS.out.mono ?_; rintro e w1 ⟨g, cap, rfl, hcap, hS, f1⟩; have hcap' : (n : Int) ≤ (cap : Int) := (by omega); have HS := Lib.hid hS; clear hS)
    | (go_at_call 32; refine (rlabel_any _ (some ⟨g, 0, none⟩) n' _ ss.dropLast (by rw [List.length_dropLast, HN.out, HN'.out]) (by rw [List.dropLast_eq_take, List.map_take]; exact strAt_take HS.out _) (by have := enc_dropLast_le ss; have := HL.out.most; omega) (fun s hs => HL.out.ok s (List.dropLast_subset _ hs))).mono ?_; rintro e w2 ⟨⟨hle2, v, P, rfl, LP, O⟩ | ⟨hgt, rfl⟩, f2⟩))
  · go_ret2
    exact ⟨v, P, rfl, LP, O.from f1, f1.trans f2⟩
  · have := enc_dropLast_le ss
    have := HL.out.most
    omega
set_option maxHeartbeats 2000000 in
set_option maxRecDepth 100000 in
theorem rparent_no (w : World) (ad : Option Addr) (m c : Nat) (l : List UInt8) (hl : l.length = m) (hb : BytesAt w ad l) (hno : ∀ ss, Lab l ss → ss = []) :
    Calls Tryz.prog 9 #[.slice ad m c] w fun e w' => e = .returned (.tuple #[.slice none 0 0, .bool false]) ∧ Fr [] w w' := by
  have cS := Lib.hid (rsteps_any w ad m c l hl hb)
  have HNO := Lib.hid hno
  clear hl hb hno
  go_enter Tryz.func9, Tryz.ntmps9
  go_wp2_with (go_at_call 31; refine cS.out.mono ?_; rintro e w1 ⟨⟨v, ss, L, rfl, hS⟩ | ⟨hno, rfl⟩, f1⟩; (obtain rfl := HNO.out ss L; obtain ⟨ads, caps, rfl, hS1⟩ := hS.row; rw [List.length_map]))
  · go_ret2
    exact ⟨rfl, f1⟩
  · go_ret2
    exact ⟨rfl, f1⟩
theorem out_none (w w' : World) : Out w w' (.slice none 0 0) [] := ⟨none, 0, rfl, World.ownsRow_nil _ _ _ _⟩
def ParentTo (l : List UInt8) (w : World) (e : Ending) (w' : World) : Prop := ∃ v P ok, e = .returned (.tuple #[v, .bool ok]) ∧ IsParent l P ok ∧ Out w w' v P ∧ Fr [] w w'
theorem some_or (l : List UInt8) : (∃ ss, ss ≠ [] ∧ Lab l ss) ∨ (∀ ss, Lab l ss → ss = []) := by
  by_cases h : ∃ ss, ss ≠ [] ∧ Lab l ss
  · exact Or.inl h
  · exact Or.inr fun ss L => Classical.byContradiction fun hne => h ⟨ss, hne, L⟩
theorem rparent_any (w : World) (ad : Option Addr) (m c : Nat) (l : List UInt8) (hl : l.length = m) (hb : BytesAt w ad l) :
    Calls Tryz.prog 9 #[.slice ad m c] w (ParentTo l w) := by
  rcases some_or l with ⟨ss, hne, L⟩ | hno
  · exact (rparent_yes w ad m c l hl hb ss L hne).mono fun e w' ⟨v, P, he, LP, O, f⟩ => ⟨v, P, true, he, Or.inl ⟨ss, hne, L, LP, rfl⟩, O, f⟩
  · exact (rparent_no w ad m c l hl hb hno).mono fun e w' ⟨he, f⟩ => ⟨_, [], false, he, Or.inr ⟨hno, rfl, rfl⟩, out_none _ _, f⟩
theorem parentP_any (w : World) (ad : Option Addr) (m c : Nat) (l : List UInt8) (hl : l.length = m) (hb : BytesAt w ad l) (hp : Plain ad) (hm : m ≤ 1000) :
    Calls Tryz.prog 8 #[.slice ad m c] w (ParentTo l w) := by
  rcases some_or l with ⟨ss, hne, L⟩ | hno
  · exact (parent_yes w ad m c l ss L hl hb hp hne).mono fun e w' ⟨v, P, he, LP, O, f⟩ => ⟨v, P, true, he, Or.inl ⟨ss, hne, L, LP, rfl⟩, O, f⟩
  · by_cases h : ∃ ss, Lab l ss
    · obtain ⟨ss, L⟩ := h
      obtain rfl := hno ss L
      exact (parent_root w ad m c l L hl hb hp).mono fun e w' ⟨he, f⟩ => ⟨_, [], false, he, Or.inr ⟨hno, rfl, rfl⟩, out_none _ _, f⟩
    · exact (parent_none w ad m c l (fun ss L => h ⟨ss, L⟩) hl hb hp (by omega)).mono fun e w' ⟨he, f⟩ => ⟨_, [], false, he, Or.inr ⟨hno, rfl, rfl⟩, out_none _ _, f⟩
theorem rightP_any (w : World) (ad : Option Addr) (m c : Nat) (l : List UInt8) (hl : l.length = m) (hb : BytesAt w ad l) (hp : Plain ad) (hm : m ≤ 1000) :
    Calls Tryz.prog 10 #[.slice ad m c] w fun e w' => ∃ b, e = .returned (.bool b) ∧ IsRight l b ∧ Fr [] w w' := by
  by_cases h : ∃ ss, Lab l ss
  · obtain ⟨ss, L⟩ := h
    exact (right_yes w ad m c l ss L hl hb hp).mono fun e w' ⟨he, f⟩ => ⟨true, he, ⟨fun _ => ⟨ss, L⟩, fun _ => rfl⟩, f⟩
  · exact (right_no w ad m c l (fun ss L => h ⟨ss, L⟩) hl hb hp (by omega)).mono fun e w' ⟨he, f⟩ => ⟨false, he, ⟨fun h => (Bool.false_ne_true h).elim, fun k => absurd k h⟩, f⟩
theorem levelP_any (w : World) (ad : Option Addr) (m c : Nat) (l : List UInt8) (hl : l.length = m) (hb : BytesAt w ad l) (hp : Plain ad) (hm : m ≤ 1000) :
    Calls Tryz.prog 13 #[.slice ad m c] w fun e w' => ∃ n, e = .returned (.int .i64 n) ∧ IsLevel l n ∧ Fr [] w w' := by
  by_cases h : ∃ ss, Lab l ss
  · obtain ⟨ss, L⟩ := h
    exact (level_yes w ad m c l ss L hl hb hp).mono fun e w' ⟨he, f⟩ => ⟨_, he, Or.inl ⟨ss, L, rfl⟩, f⟩
  · exact (level_no w ad m c l (fun ss L => h ⟨ss, L⟩) hl hb hp (by omega)).mono fun e w' ⟨he, f⟩ => ⟨_, he, Or.inr ⟨fun ss L => h ⟨ss, L⟩, rfl⟩, f⟩
end Go.Proofs.YtddcilmeignlmaaGreatDoor

namespace Go.Proofs.YtddcilmeignlmaaGreatDoor
open Go.RowKit Go.Maps Go.Lib

theorem run_head (s : ByteArray) (i : Int) (m : Nat) (hm : i = (m : Int)) (h : m ≤ s.size) (w : World) : (Instr.slice 9 (.string s) none (some (.int .i64 i)) none).run Tryz.prog w = .ok (.string (mkS ((bl s).take m))) w := by
  subst hm
  rw [run_slice_string_to_if (P := Tryz.prog) w 9 s .i64 (m : Int) Tryz.underlying9]
  have e : s.extract 0 m = mkS ((bl s).take m) := by
    have := ByteArray.extract_mk (bl s) 0 m
    have e2 : ByteArray.mk (bl s).toArray = s := rfl
    rw [e2] at this
    rw [this]
    simp [mkS]
  simp [h, e]
theorem cb_end (l m : List UInt8) (j : Nat) (h : j = l.length ∨ j = m.length) (hj : j ≤ l.length) (hk : j ≤ m.length) (he : ∀ i, i < j → byteAt l i = byteAt m i) :
    compareBytes l m = if l.length < m.length then -1 else if m.length < l.length then 1 else 0 := by
  rcases Nat.lt_trichotomy l.length m.length with h1 | h1 | h1
  · rw [if_pos h1]
    exact cb_pre l m h1 (fun i hi => he i (by omega))
  · rw [if_neg (by omega), if_neg (by omega)]
    have : l = m := by
      apply List.ext_getElem h1
      intro i h2 h3
      have := he i (by omega)
      rwa [byteAt_lt h2, byteAt_lt h3] at this
    rw [this, cb_self]
  · rw [if_neg (by omega), if_pos h1, cb_sym m l, cb_pre m l h1 (fun i hi => (he i (by omega)).symm)]
    rfl

set_option maxHeartbeats 2000000 in
set_option maxRecDepth 100000 in
theorem rafter_yes (w : World) (ad : Option Addr) (m c : Nat) (l : List UInt8) (hl : l.length = m) (hb : BytesAt w ad l) (ss : List (List Bool)) (L : Lab l ss) (hne : ss ≠ []) :
    Calls Tryz.prog 16 #[.slice ad m c] w fun e w' => ∃ v A, e = .returned v ∧ Rep (mkS A) (endR ss).length (endR ss) ∧ Out w w' v A ∧ Fr [] w w' := by
  have cS : Hid (Calls Tryz.prog 31 #[.slice ad m c] w fun e w' => ∃ a cap, e = .returned (.tuple #[.slice a ss.length cap, .bool true]) ∧ StrAt w' a (ss.map sT) ∧ Fr [] w w') := by
    refine (rsteps_any w ad m c l hl hb).mono ?_
    rintro e w' ⟨⟨v, tt, M, rfl, hS⟩ | ⟨hn, _⟩, f⟩
    · obtain rfl := lab_unique L M
      obtain ⟨a, cap, rfl, hh⟩ := hS.row
      exact ⟨a, cap, by rw [List.length_map], hh, f⟩
    · exact absurd L (hn ss)
  have hp : 0 < ss.length := List.length_pos_iff.2 hne
  have hle := len_le_enc ss
  have hms := L.most
  have hel := endR_len ss hne
  obtain ⟨n, hn⟩ : ∃ n, ss.length = n := ⟨_, rfl⟩
  have HN := Lib.hid hn
  obtain ⟨E, hE⟩ : ∃ E, (enc ss).length = E := ⟨_, rfl⟩
  have HEL := Lib.hid hel
  have cB : Hid (∀ w' a cap, StrAt w' a (ss.map sT) → Calls Tryz.prog 37 #[.slice a n cap] w' fun e w'' => e = .returned (.string (sT (enc ss))) ∧ Fr [] w' w'') := fun w' a cap hS => rbits_any w' a n cap ss hn hS (by omega)
  have q1 := run_head (sT (enc ss)) ((E : Int) - 1) (E - 1) (by omega) (by rw [sT_size]; omega)
  have e1 : mkS ((bl (sT (enc ss))).take (E - 1)) = sT (enc ss).dropLast := by
    unfold sT
    rw [bl_mkS, List.dropLast_eq_take, hE]
    simp [txt]
  rw [e1] at q1
  have isz : ((sT (enc ss)).size : Int) = (E : Int) := by rw [sT_size]; omega
  have hsz : (sT (enc ss).dropLast).size + 1 = E := by rw [sT_size, List.length_dropLast]; omega
  have d1 : ¬ 9223372036854775807 < (sT (enc ss).dropLast).size + 1 := by omega
  have e2 : sT (enc ss).dropLast ++ { data := #[49] } = sT (endR ss) := by
    unfold endR
    rw [sT_snoc]
    rfl
  have cP : Hid (∀ w', Calls Tryz.prog 38 #[.string (sT (enc ss).dropLast ++ { data := #[49] })] w' fun e w'' => ∃ v A, e = .returned v ∧ Rep (mkS A) (endR ss).length (endR ss) ∧ Out w' w'' v A ∧ Fr [] w' w'') := fun w' => by
    rw [e2]
    have hz : (sT (endR ss)).size = (endR ss).length := sT_size _
    refine (rpack_any w' (sT (endR ss)) (by omega)).mono ?_
    rintro e w'' ⟨v, A, rfl, ow, kl⟩
    have hr := OfTo.rep (s := sT (endR ss)) (room := A) kl (by omega) rfl
    rw [hz, show bl (sT (endR ss)) = txt (endR ss) from rfl, said_txt] at hr
    exact ⟨v, A, rfl, hr, own_out ow kl.len, ow.2⟩
  rw [hn] at cS hp hle
  have hn0 : (0 : Int) < (n : Int) := by omega
  have hn2 : ((n : Int) == 0) = false := by simp; omega
  have hE0 : (0 : Int) < (E : Int) := by omega
  have hE1 : (E : Int) ≤ 1024 := by omega
  clear hl hb L hne hn hle hms e1 e2 hel hE hsz
  go_enter Tryz.func16, Tryz.ntmps16
  go_wp2_with (first
    | (go_at_call 31; refine cS.out.mono ?_; rintro e w1 ⟨g, cap, rfl, hS, f1⟩; have HS := Lib.hid hS; clear hS)
    | (go_at_call 37; refine (cB.out _ g cap HS.out).mono ?_; rintro e w2 ⟨rfl, f2⟩)
    | (go_at_call 38; refine (cP.out _).mono ?_; rintro e w3 ⟨v, A, rfl, hR, hO, f3⟩))
  go_ret
  exact ⟨v, A, rfl, hR, hO.from (f1.trans f2), (f1.trans f2).trans f3⟩
set_option maxHeartbeats 2000000 in
set_option maxRecDepth 100000 in
theorem rafter_no (w : World) (ad : Option Addr) (m c : Nat) (l : List UInt8) (hl : l.length = m) (hb : BytesAt w ad l) (hno : ∀ ss, Lab l ss → ss = []) :
    Calls Tryz.prog 16 #[.slice ad m c] w fun e w' => e = .returned (.slice none 0 0) ∧ Fr [] w w' := by
  have cS := Lib.hid (rsteps_any w ad m c l hl hb)
  have HNO := Lib.hid hno
  clear hl hb hno
  go_enter Tryz.func16, Tryz.ntmps16
  go_wp2_with (go_at_call 31; refine cS.out.mono ?_; rintro e w1 ⟨⟨v, ss, L, rfl, hS⟩ | ⟨hno, rfl⟩, f1⟩; (obtain rfl := HNO.out ss L; obtain ⟨ads, caps, rfl, hS1⟩ := hS.row; rw [List.length_map]))
  · go_ret
    exact ⟨rfl, f1⟩
  · go_ret
    exact ⟨rfl, f1⟩
def AfterTo (l : List UInt8) (w : World) (e : Ending) (w' : World) : Prop := ∃ v A, e = .returned v ∧ IsAfter l A ∧ Out w w' v A ∧ Fr [] w w'
theorem rafter_any (w : World) (ad : Option Addr) (m c : Nat) (l : List UInt8) (hl : l.length = m) (hb : BytesAt w ad l) :
    Calls Tryz.prog 16 #[.slice ad m c] w (AfterTo l w) := by
  rcases some_or l with ⟨ss, hne, L⟩ | hno
  · exact (rafter_yes w ad m c l hl hb ss L hne).mono fun e w' ⟨v, A, he, R, O, f⟩ => ⟨v, A, he, Or.inl ⟨ss, hne, L, R⟩, O, f⟩
  · exact (rafter_no w ad m c l hl hb hno).mono fun e w' ⟨he, f⟩ => ⟨_, [], he, Or.inr ⟨hno, rfl⟩, out_none _ _, f⟩
theorem afterP_any (w : World) (ad : Option Addr) (m c : Nat) (l : List UInt8) (hl : l.length = m) (hb : BytesAt w ad l) (hp : Plain ad) (hm : m ≤ 1000) :
    Calls Tryz.prog 15 #[.slice ad m c] w (AfterTo l w) := by
  rcases some_or l with ⟨ss, hne, L⟩ | hno
  · exact (after_yes w ad m c l ss L hl hb hp hne).mono fun e w' ⟨v, A, he, R, O, f⟩ => ⟨v, A, he, Or.inl ⟨ss, hne, L, R⟩, O, f⟩
  · by_cases h : ∃ ss, Lab l ss
    · obtain ⟨ss, L⟩ := h
      obtain rfl := hno ss L
      exact (after_root w ad m c l L hl hb hp).mono fun e w' ⟨he, f⟩ => ⟨_, [], he, Or.inr ⟨hno, rfl⟩, out_none _ _, f⟩
    · exact (after_none w ad m c l (fun ss L => h ⟨ss, L⟩) hl hb hp (by omega)).mono fun e w' ⟨he, f⟩ => ⟨_, [], he, Or.inr ⟨hno, rfl⟩, out_none _ _, f⟩

set_option maxHeartbeats 2000000 in
set_option maxRecDepth 100000 in
theorem rcmp_any (w : World) (a1 a2 : Option Addr) (n1 n2 c1 c2 : Nat) (l1 l2 : List UInt8) (h1 : l1.length = n1) (h2 : l2.length = n2) (p1 : BytesAt w a1 l1) (p2 : BytesAt w a2 l2) (m1 : n1 ≤ 1000) (m2 : n2 ≤ 1000) :
    Calls Tryz.prog 18 #[.slice a1 n1 c1, .slice a2 n2 c2] w fun e w' => e = .returned (.int .i64 (compareBytes l1 l2)) ∧ Fr [] w w' := by
  have H1 := Lib.hid h1
  have H2 := Lib.hid h2
  have k1 : (n1 : Int) ≤ 1000 := by omega
  have k2 : (n2 : Int) ≤ 1000 := by omega
  have P1 := Lib.hid p1
  have P2 := Lib.hid p2
  clear h1 h2 p1 p2
  go_enter Tryz.func18, Tryz.ntmps18
  go_wp2_with go_in
  go_loopw [5] (fun i wr => ∃ j : Nat, j ≤ n1 ∧ j ≤ n2 ∧ i = .int .i64 j ∧ Hid (∀ i, i < j → byteAt l1 i = byteAt l2 i) ∧ Hid (Fr [] w wr)) (fun i _ => n1 - (RowKit.intOf i).toNat)
  case atStart => exact ⟨0, by omega, by omega, rfl, Lib.hid (fun i hi => by omega), Lib.hid (Fr.refl _ _)⟩
  case round =>
    obtain ⟨j, hj1, hj2, rfl, HE, fr⟩ := hrel
    have hj0 : (0 : Int) ≤ (j : Int) := by omega
    by_cases hl : j < n1 ∧ j < n2
    · obtain ⟨hl1, hl2⟩ := hl
      have e1 : (j : Int) < (n1 : Int) := by omega
      have e2 : (j : Int) < (n2 : Int) := by omega
      obtain ⟨b1, o1, rfl, q1⟩ := (P1.out.kept fr.out (by simp)).at j (by rw [H1.out]; exact hl1)
      obtain ⟨b2, o2, rfl, q2⟩ := (P2.out.kept fr.out (by simp)).at j (by rw [H2.out]; exact hl2)
      by_cases heq : byteAt l1 j = byteAt l2 j
      · have HQ := Lib.hid heq
        rw [heq] at q1
        clear heq
        generalize ((byteAt l2 j).toNat : Int) = v1 at q1 q2
        go_wp2_with fail
        go_region_held3 (fun w' => w'.cell? ⟨b1, o1 + j, none⟩ = some (.int .u8 v1) ∧ w'.cell? ⟨b2, o2 + j, none⟩ = some (.int .u8 v1)) (go_keep) (fail)
        go_wp2_with fail
        go_region_held3 (fun w' => w'.cell? ⟨b1, o1 + j, none⟩ = some (.int .u8 v1) ∧ w'.cell? ⟨b2, o2 + j, none⟩ = some (.int .u8 v1)) (go_keep) (fail)
        go_wp2_with fail
        refine ⟨⟨j + 1, by omega, by omega, by go_num, Lib.hid ?_, Lib.hid (fr.out.drew.drew)⟩, by simp [RowKit.intOf]; omega⟩
        intro i hi
        by_cases e : i = j
        · rw [e]; exact HQ.out
        · exact HE.out i (by omega)
      · have hne : ¬ (byteAt l1 j).toNat = (byteAt l2 j).toNat := fun e => heq (UInt8.toNat_inj.1 e)
        by_cases hlt : byteAt l1 j < byteAt l2 j
        · have hc := Lib.hid (cb_lt j l1 l2 (by rw [H1.out]; exact hl1) (by rw [H2.out]; exact hl2) HE.out hlt)
          rw [UInt8.lt_iff_toNat_lt] at hlt
          have g1 : (((byteAt l1 j).toNat : Nat) : Int) < (((byteAt l2 j).toNat : Nat) : Int) := by omega
          clear hne hlt heq
          generalize ((byteAt l1 j).toNat : Int) = v1 at q1 g1
          generalize ((byteAt l2 j).toNat : Int) = v2 at q2 g1
          go_wp2_with fail
          go_region_held3 (fun w' => w'.cell? ⟨b1, o1 + j, none⟩ = some (.int .u8 v1) ∧ w'.cell? ⟨b2, o2 + j, none⟩ = some (.int .u8 v2)) (go_keep) (fail)
          go_wp2_with fail
          go_ret
          exact ⟨by rw [hc.out]; rfl, fr.out.drew⟩
        · have hgt : byteAt l2 j < byteAt l1 j := by rw [UInt8.lt_iff_toNat_lt] at hlt ⊢; omega
          have hc := Lib.hid (show compareBytes l1 l2 = 1 from by
            rw [cb_sym l2 l1, cb_lt j l2 l1 (by rw [H2.out]; exact hl2) (by rw [H1.out]; exact hl1) (fun i hi => (HE.out i hi).symm) hgt]
            rfl)
          rw [UInt8.lt_iff_toNat_lt] at hlt
          have g1 : ¬ (((byteAt l1 j).toNat : Nat) : Int) < (((byteAt l2 j).toNat : Nat) : Int) := by omega
          have g4 : (((byteAt l2 j).toNat : Nat) : Int) < (((byteAt l1 j).toNat : Nat) : Int) := by omega
          clear hne hlt heq hgt
          generalize ((byteAt l1 j).toNat : Int) = v1 at q1 g1 g4
          generalize ((byteAt l2 j).toNat : Int) = v2 at q2 g1 g4
          go_wp2_with fail
          go_region_held3 (fun w' => w'.cell? ⟨b1, o1 + j, none⟩ = some (.int .u8 v1) ∧ w'.cell? ⟨b2, o2 + j, none⟩ = some (.int .u8 v2)) (go_keep) (fail)
          go_wp2_with fail
          go_region_held3 (fun w' => w'.cell? ⟨b1, o1 + j, none⟩ = some (.int .u8 v1) ∧ w'.cell? ⟨b2, o2 + j, none⟩ = some (.int .u8 v2)) (go_keep) (fail)
          go_wp2_with fail
          go_ret
          exact ⟨by rw [hc.out]; rfl, fr.out.drew.drew⟩
    · have hend := cb_end l1 l2 j (by rw [H1.out, H2.out]; omega) (by rw [H1.out]; exact hj1) (by rw [H2.out]; exact hj2) HE.out
      rw [H1.out, H2.out] at hend
      have HC := Lib.hid hend
      clear hend
      rcases Nat.lt_trichotomy n1 n2 with hc | hc | hc
      · have d1 : ¬ (j : Int) < (n1 : Int) := by omega
        have d2 : (n1 : Int) < (n2 : Int) := by omega
        have hR := Lib.hid (show compareBytes l1 l2 = -1 from by rw [HC.out, if_pos hc])
        clear hl hj1 hj2 hc
        go_wp2_with fail
        go_ret
        exact ⟨by rw [hR.out]; rfl, fr.out⟩
      · subst hc
        have d1 : ¬ (j : Int) < (n1 : Int) := by omega
        have hR := Lib.hid (show compareBytes l1 l2 = 0 from by rw [HC.out, if_neg (Nat.lt_irrefl _), if_neg (Nat.lt_irrefl _)])
        clear hl hj1 hj2
        go_wp2_with fail
        go_ret
        exact ⟨by rw [hR.out]; rfl, fr.out⟩
      · have hR := Lib.hid (show compareBytes l1 l2 = 1 from by rw [HC.out, if_neg (by omega), if_pos hc])
        have d2 : ¬ (n1 : Int) < (n2 : Int) := by omega
        have d3 : (n2 : Int) < (n1 : Int) := by omega
        have d1 : (j : Int) < (n1 : Int) := by omega
        have d4 : ¬ (j : Int) < (n2 : Int) := by omega
        clear hl hj1 hj2 hc
        go_wp2_with fail
        go_ret
        exact ⟨by rw [hR.out]; rfl, fr.out⟩
end Go.Proofs.YtddcilmeignlmaaGreatDoor

namespace Go.Proofs.YtddcilmeignlmaaGreatDoor
open Go.RowKit Go.Maps Go.Lib

theorem go_prefix : ∀ (r st : List Bool) (acc ss : List (List Bool)) (rest : List Bool), go r st acc = some (ss, rest) → acc <+: ss
  | true :: b :: r, st, acc, ss, rest, h => by
    rw [go] at h
    exact go_prefix r (st ++ [b]) acc ss rest h
  | false :: r, st, acc, ss, rest, h => by
    rw [go] at h
    by_cases e : st = []
    · rw [if_pos e] at h
      obtain ⟨rfl, _⟩ : acc = ss ∧ _ := by simpa using h
      exact List.prefix_refl _
    · rw [if_neg e] at h
      by_cases e2 : st.getLast? = some true
      · rw [if_pos e2] at h
        exact (List.prefix_append acc [st]).trans (go_prefix r [] (acc ++ [st]) ss rest h)
      · rw [if_neg e2] at h
        cases h
  | [true], st, acc, ss, rest, h => by
    rw [go] at h
    cases h
  | [], st, acc, ss, rest, h => by
    rw [go] at h
    by_cases e : st = []
    · rw [if_pos e] at h
      obtain ⟨rfl, _⟩ : acc = ss ∧ _ := by simpa using h
      exact List.prefix_refl _
    · rw [if_neg e] at h
      cases h
theorem enc_begins {ss tt : List (List Bool)} (hs : ∀ s ∈ ss, okS s) (ht : ∀ s ∈ tt, okS s) : (enc tt).take (enc ss).length = enc ss ↔ tt.take ss.length = ss := by
  constructor
  · intro h
    have e : enc tt = enc ss ++ (enc tt).drop (enc ss).length := by
      have := List.take_append_drop (enc ss).length (enc tt)
      rw [h] at this
      exact this.symm
    have g1 : go (enc tt ++ []) [] [] = some ([] ++ tt, []) := by rw [go_enc tt [] [] ht]; exact go_end [] _ (by simp)
    rw [List.append_nil, List.nil_append, e, go_enc ss _ [] hs, List.nil_append] at g1
    obtain ⟨q, rfl⟩ := go_prefix _ _ _ _ _ g1
    simp
  · intro h
    have e : enc tt = enc ss ++ enc (tt.drop ss.length) := by
      have := List.take_append_drop ss.length tt
      rw [h] at this
      rw [← enc_append, this]
    rw [e]
    simp
def IsAbove (a b : List UInt8) (r : Bool) : Prop := r = true ↔ ∃ ss tt, Lab a ss ∧ Lab b tt ∧ ss.length < tt.length ∧ tt.take ss.length = ss
theorem IsAbove.one {a b : List UInt8} {r q : Bool} (h : IsAbove a b r) (g : IsAbove a b q) : r = q := Bool.eq_iff_iff.2 (h.trans g.symm)
theorem IsAbove.no {a b : List UInt8} (h : (∀ ss, ¬ Lab a ss) ∨ (∀ ss, ¬ Lab b ss)) : IsAbove a b false :=
  ⟨fun h => (Bool.false_ne_true h).elim, fun ⟨ss, tt, L, M, _⟩ => h.elim (fun h => absurd L (h ss)) (fun h => absurd M (h tt))⟩
theorem IsAbove.abv {a b : List UInt8} {ss tt : List (List Bool)} (L : Lab a ss) (M : Lab b tt) : IsAbove a b (abv ss tt) := by
  constructor
  · intro h
    simp only [Go.Proofs.YtddcilmeignlmaaGreatDoor.abv, Bool.and_eq_true, decide_eq_true_eq, beq_iff_eq] at h
    exact ⟨ss, tt, L, M, h.1, (enc_begins L.ok M.ok).1 h.2⟩
  · rintro ⟨ss', tt', L', M', h1, h2⟩
    obtain rfl := lab_unique L L'
    obtain rfl := lab_unique M M'
    simp only [Go.Proofs.YtddcilmeignlmaaGreatDoor.abv, Bool.and_eq_true, decide_eq_true_eq, beq_iff_eq]
    exact ⟨h1, (enc_begins L.ok M.ok).2 h2⟩
theorem sT_inj {a b : List Bool} (h : sT a = sT b) : a = b := by
  have : txt a = txt b := congrArg bl h
  rw [← said_txt a, ← said_txt b, this]
set_option maxHeartbeats 2000000 in
set_option maxRecDepth 100000 in
theorem rbegins_any (w : World) (aT aS : Option Addr) (nT nS cT cS : Nat) (tt ss : List (List Bool)) (h1 : tt.length = nT) (h2 : ss.length = nS) (p1 : StrAt w aT (tt.map sT)) (p2 : StrAt w aS (ss.map sT)) (hm : nT ≤ 3000) (hle : nS ≤ nT) :
    Calls Tryz.prog 41 #[.slice aT nT cT, .slice aS nS cS] w fun e w' => e = .returned (.bool (decide (tt.take nS = ss))) ∧ Fr [] w w' := by
  have H1 := Lib.hid h1
  have H2 := Lib.hid h2
  have k1 : (nT : Int) ≤ 3000 := by omega
  have k2 : (nS : Int) ≤ (nT : Int) := by omega
  have k3 : ¬ (nT : Int) < (nS : Int) := by omega
  have P1 := Lib.hid p1
  have P2 := Lib.hid p2
  clear h1 h2 p1 p2
  go_enter Tryz.func41, Tryz.ntmps41
  go_wp2_with go_in
  go_loopw [5] (fun i wr => ∃ j : Nat, j ≤ nS ∧ i = .int .i64 j ∧ Hid (tt.take j = ss.take j) ∧ Hid (Fr [] w wr)) (fun i _ => nS - (RowKit.intOf i).toNat)
  case atStart => exact ⟨0, by omega, rfl, Lib.hid (by simp), Lib.hid (Fr.refl _ _)⟩
  case round =>
    obtain ⟨j, hj, rfl, HT, fr⟩ := hrel
    have hj0 : (0 : Int) ≤ (j : Int) := by omega
    by_cases hlt : j < nS
    · have hlt1 : (j : Int) < (nS : Int) := by omega
      have hlt2 : (j : Int) < (nT : Int) := by omega
      have g1 : j < tt.length := by rw [H1.out]; omega
      have g2 : j < ss.length := by rw [H2.out]; omega
      obtain ⟨b1, o1, rfl, q1⟩ := (P1.out.kept fr.out) j (sT tt[j]) (by rw [List.getElem?_map, List.getElem?_eq_getElem g1]; rfl)
      obtain ⟨b2, o2, rfl, q2⟩ := (P2.out.kept fr.out) j (sT ss[j]) (by rw [List.getElem?_map, List.getElem?_eq_getElem g2]; rfl)
      by_cases heq : tt[j] = ss[j]
      · have hn := Lib.hid (show tt.take (j + 1) = ss.take (j + 1) from by rw [List.take_succ_eq_append_getElem g1, List.take_succ_eq_append_getElem g2, HT.out, heq])
        rw [heq] at q1
        generalize sT ss[j] = U at q1 q2
        clear heq g1 g2
        go_wp2_with fail
        go_region_held3 (fun w' => w'.cell? ⟨b1, o1 + j, none⟩ = some (.string U) ∧ w'.cell? ⟨b2, o2 + j, none⟩ = some (.string U)) (go_keep) (fail)
        go_wp2_with fail
        exact ⟨⟨j + 1, by omega, by go_num, hn, Lib.hid fr.out.drew⟩, by simp [RowKit.intOf]; omega⟩
      · have hu : sT tt[j] ≠ sT ss[j] := fun e => heq (sT_inj e)
        have hn := Lib.hid (show decide (tt.take nS = ss) = false from decide_eq_false fun e => heq (by
          have e1 : (tt.take nS)[j]? = ss[j]? := by rw [e]
          rw [List.getElem?_take, if_pos hlt, List.getElem?_eq_getElem g1, List.getElem?_eq_getElem g2] at e1
          exact Option.some.inj e1))
        generalize sT ss[j] = U at q2 hu
        generalize sT tt[j] = V at q1 hu
        have hu1 : ¬ V.toList = U.toList := fun e => hu (by
          rw [ByteArray.toList_eq, ByteArray.toList_eq] at e
          exact (mkS_bl V).symm.trans ((congrArg mkS e).trans (mkS_bl U)))
        have hu2 : (V.toList == U.toList) = false := by rw [beq_eq_false_iff_ne]; exact hu1
        clear hu hu1
        clear heq g1 g2
        go_wp2_with fail
        go_region_held3 (fun w' => w'.cell? ⟨b1, o1 + j, none⟩ = some (.string V) ∧ w'.cell? ⟨b2, o2 + j, none⟩ = some (.string U)) (go_keep) (fail)
        go_wp2_with fail
        go_ret
        exact ⟨by rw [hn.out]; rfl, fr.out.drew⟩
    · obtain rfl : j = nS := by omega
      have hn := Lib.hid (show decide (tt.take j = ss) = true from decide_eq_true (by rw [HT.out, ← H2.out, List.take_length]))
      go_wp2_with fail
      go_ret
      exact ⟨by rw [hn.out]; rfl, fr.out⟩
set_option maxHeartbeats 4000000 in
set_option maxRecDepth 100000 in
theorem rabove_any (w : World) (a1 a2 : Option Addr) (n1 n2 c1 c2 : Nat) (l1 l2 : List UInt8) (h1 : l1.length = n1) (h2 : l2.length = n2) (p1 : BytesAt w a1 l1) (p2 : BytesAt w a2 l2) :
    Calls Tryz.prog 20 #[.slice a1 n1 c1, .slice a2 n2 c2] w fun e w' => ∃ r, e = .returned (.bool r) ∧ IsAbove l1 l2 r ∧ Fr [] w w' := by
  have cA := Lib.hid (rsteps_any w a1 n1 c1 l1 h1 p1)
  have cB := Lib.hid (fun w' (f : Fr [] w w') => rsteps_any w' a2 n2 c2 l2 h2 (p2.kept f (by simp)))
  clear h1 h2 p1 p2
  go_enter Tryz.func20, Tryz.ntmps20
  go_wp2_with fail
  refine cA.out.mono ?_
  rintro e w1 ⟨hd1, f1⟩
  rcases hd1 with ⟨v1, ss, L, rfl, hS⟩ | ⟨hno, rfl⟩
  · obtain ⟨ad1, cap1, rfl, hS1⟩ := hS.row
    rw [List.length_map]
    have HS1 := Lib.hid hS1
    clear hS hS1
    go_wp2_with fail
    refine (cB.out _ f1).mono ?_
    rintro e w2 ⟨hd2, f2⟩
    rcases hd2 with ⟨v2, tt, M, rfl, hT⟩ | ⟨hno, rfl⟩
    · obtain ⟨ad2, cap2, rfl, hT1⟩ := hT.row
      rw [List.length_map]
      have HT1 := Lib.hid hT1
      have HS2 := Lib.hid (HS1.out.kept f2)
      have HL := Lib.hid L
      have HM := Lib.hid M
      have hle1 := Lib.hid (show tt.length ≤ 3000 from by have := len_le_enc tt; have := M.most; omega)
      clear hT hT1 L M
      by_cases hlt : ss.length < tt.length
      · have hlt' : (ss.length : Int) < (tt.length : Int) := by omega
        go_wp2_with (go_at_call 41; refine (rbegins_any _ ad2 ad1 tt.length ss.length cap2 cap1 tt ss rfl rfl HT1.out HS2.out hle1.out (by omega)).mono ?_; rintro e w3 ⟨rfl, f3⟩)
        go_ret
        refine ⟨_, rfl, ?_, (f1.trans f2).trans f3⟩
        constructor
        · intro h
          exact ⟨ss, tt, HL.out, HM.out, hlt, of_decide_eq_true h⟩
        · rintro ⟨ss', tt', L', M', _, h2⟩
          obtain rfl := lab_unique HL.out L'
          obtain rfl := lab_unique HM.out M'
          exact decide_eq_true h2
      · have hlt' : ¬ (ss.length : Int) < (tt.length : Int) := by omega
        go_wp2_with fail
        go_ret
        refine ⟨false, rfl, ⟨fun h => (Bool.false_ne_true h).elim, ?_⟩, f1.trans f2⟩
        rintro ⟨ss', tt', L', M', h1, _⟩
        obtain rfl := lab_unique HL.out L'
        obtain rfl := lab_unique HM.out M'
        exact absurd h1 hlt
    · go_wp2_with fail
      go_ret
      exact ⟨false, rfl, IsAbove.no (Or.inr hno), f1.trans f2⟩
  · go_wp2_with fail
    refine (cB.out _ f1).mono ?_
    rintro e w2 ⟨hd2, f2⟩
    rcases hd2 with ⟨v2, tt, M, rfl, hT⟩ | ⟨hno2, rfl⟩
    · clear hT
      go_wp2_with fail
      go_ret
      exact ⟨false, rfl, IsAbove.no (Or.inl hno), f1.trans f2⟩
    · go_wp2_with fail
      go_ret
      exact ⟨false, rfl, IsAbove.no (Or.inl hno), f1.trans f2⟩
end Go.Proofs.YtddcilmeignlmaaGreatDoor

namespace Go.Proofs.YtddcilmeignlmaaGreatDoor
open Go.RowKit Go.Maps Go.Lib

set_option maxHeartbeats 2000000 in
set_option maxRecDepth 100000 in
theorem above_no1 (w : World) (a1 a2 : Option Addr) (n1 n2 c1 c2 : Nat) (l1 l2 : List UInt8) (hno : ∀ ss, ¬ Lab l1 ss) (h1 : l1.length = n1) (h2 : l2.length = n2) (b1 : BytesAt w a1 l1) (b2 : BytesAt w a2 l2) (p1 : Plain a1) (p2 : Plain a2) (m1 : n1 ≤ 1000) (m2 : n2 ≤ 1000) :
    Calls Tryz.prog 19 #[.slice a1 n1 c1, .slice a2 n2 c2] w fun e w' => e = .returned (.bool false) ∧ Fr [] w w' := by
  have r1 := Lib.hid (read_no w a1 n1 c1 l1 hno h1 b1 p1 (by omega))
  have R2 := Lib.hid (fun w' (f : Fr [] w w') => read_any w' a2 n2 c2 l2 h2 (b2.kept f (by simp)) p2 (by omega))
  clear hno h1 h2 b1 b2 p1 p2
  go_enter Tryz.func19, Tryz.ntmps19
  go_wp2_with fail
  refine r1.out.mono ?_
  rintro e w1 ⟨rfl, f1⟩
  go_wp2_with fail
  refine (R2.out _ (f1.alloc _)).mono ?_
  rintro e w2 ⟨hd, f2⟩
  have f3 := (f1.alloc _).trans f2
  rcases hd with ⟨tt, u4, u5, _, rfl, _, _⟩ | ⟨rfl, _⟩
  · go_wp2_with fail
    go_ret
    exact ⟨rfl, f3.alloc _⟩
  · go_wp2_with fail
    go_ret
    exact ⟨rfl, f3.alloc _⟩
set_option maxHeartbeats 2000000 in
set_option maxRecDepth 100000 in
theorem above_no2 (w : World) (a1 a2 : Option Addr) (n1 n2 c1 c2 : Nat) (l1 l2 : List UInt8) (ss : List (List Bool)) (L : Lab l1 ss) (hno : ∀ ss, ¬ Lab l2 ss) (h1 : l1.length = n1) (h2 : l2.length = n2) (b1 : BytesAt w a1 l1) (b2 : BytesAt w a2 l2) (p1 : Plain a1) (p2 : Plain a2) (m2 : n2 ≤ 1000) :
    Calls Tryz.prog 19 #[.slice a1 n1 c1, .slice a2 n2 c2] w fun e w' => e = .returned (.bool false) ∧ Fr [] w w' := by
  have r1 := Lib.hid (read_yes w a1 n1 c1 l1 ss L h1 b1 p1)
  have R2 := Lib.hid (fun w' (f : Fr [] w w') => read_no w' a2 n2 c2 l2 hno h2 (b2.kept f (by simp)) p2 (by omega))
  clear hno h1 h2 b1 b2 p1 p2
  go_enter Tryz.func19, Tryz.ntmps19
  go_wp2_with fail
  refine r1.out.mono ?_
  rintro e w1 ⟨u2, u3, rfl, _, _, f1⟩
  go_wp2_with fail
  refine (R2.out _ (f1.alloc _)).mono ?_
  rintro e w2 ⟨rfl, f2⟩
  have f3 := (f1.alloc _).trans f2
  go_wp2_with fail
  go_ret
  exact ⟨rfl, f3.alloc _⟩
theorem aboveP_any (w : World) (a1 a2 : Option Addr) (n1 n2 c1 c2 : Nat) (l1 l2 : List UInt8) (h1 : l1.length = n1) (h2 : l2.length = n2) (b1 : BytesAt w a1 l1) (b2 : BytesAt w a2 l2) (p1 : Plain a1) (p2 : Plain a2) (m1 : n1 ≤ 1000) (m2 : n2 ≤ 1000) :
    Calls Tryz.prog 19 #[.slice a1 n1 c1, .slice a2 n2 c2] w fun e w' => ∃ r, e = .returned (.bool r) ∧ IsAbove l1 l2 r ∧ Fr [] w w' := by
  by_cases hA : ∃ ss, Lab l1 ss
  · obtain ⟨ss, L⟩ := hA
    by_cases hB : ∃ ss, Lab l2 ss
    · obtain ⟨tt, M⟩ := hB
      exact (above_yes w a1 a2 n1 n2 c1 c2 l1 l2 ss tt L M h1 h2 b1 b2 p1 p2).mono fun e w' ⟨he, f⟩ => ⟨_, he, IsAbove.abv L M, f⟩
    · exact (above_no2 w a1 a2 n1 n2 c1 c2 l1 l2 ss L (fun tt M => hB ⟨tt, M⟩) h1 h2 b1 b2 p1 p2 m2).mono fun e w' ⟨he, f⟩ => ⟨_, he, IsAbove.no (Or.inr fun tt M => hB ⟨tt, M⟩), f⟩
  · exact (above_no1 w a1 a2 n1 n2 c1 c2 l1 l2 (fun tt M => hA ⟨tt, M⟩) h1 h2 b1 b2 p1 p2 m1 m2).mono fun e w' ⟨he, f⟩ => ⟨_, he, IsAbove.no (Or.inl fun tt M => hA ⟨tt, M⟩), f⟩
theorem lent_both (w : World) (ad : Option Addr) (n c : Nat) (l : List UInt8) (hl : l.length = n) (hn : n ≤ 5000) (hb : BytesAt w ad l) (hc : ad = none → c = 0) :
    Calls Tryz.prog 7 #[.slice ad n c] w fun e w' => ∃ g cap, e = .returned (.slice (some ⟨g, 0, none⟩) n cap) ∧ LentAt w' g cap l ∧ w.heap.size ≤ g ∧ Fr [] w w' := by
  cases ad with
  | none =>
    obtain rfl : c = 0 := hc rfl
    have h0 : n = 0 := by
      rcases Nat.eq_zero_or_pos n with h | h
      · exact h
      · obtain ⟨b, off, e, _⟩ := hb.at 0 (by omega)
        cases e
    subst h0
    obtain rfl : l = [] := List.eq_nil_of_length_eq_zero hl
    exact lent_nil w 0 [] rfl (by omega) rfl
  | some a0 => exact lent_any w a0 n c l hl hn hb
theorem same_out {u1 u2 w : World} {v1 v2 : Value} {l : List UInt8} (h1 : Out u1 w v1 l) (h2 : Out u2 w v2 l) (hl : l.length ≤ 1000000) :
    Calls Tryz.prog 12 #[v1, v2] w fun e w' => e = .returned (.bool true) ∧ Fr [] w w' := by
  obtain ⟨ad1, cap1, rfl, b1, _⟩ := h1.use
  obtain ⟨ad2, cap2, rfl, b2, _⟩ := h2.use
  refine (same_any w ad1 ad2 l l l.length cap1 cap2 b1 b2 rfl rfl hl).mono ?_
  rintro e w' ⟨rfl, f⟩
  exact ⟨by rw [beq_self_eq_true], f⟩
set_option maxHeartbeats 2000000 in
set_option maxRecDepth 100000 in
theorem tells_long (w : World) (hL : Laid w) (ad1 ad2 : Option Addr) (m1 c1 m2 c2 : Nat) (hm : 1000 < m1 + m2) (h1 : m1 < 140737488355328) (h2 : m2 < 140737488355328) :
    Calls Tryz.prog 3 #[.slice ad1 m1 c1, .slice ad2 m2 c2] w fun e w' => e = .returned (.bool true) ∧ Fr [] w w' := by
  have hm' : (1000 : Int) < (m1 : Int) + (m2 : Int) := by omega
  have h1' : (m1 : Int) < 140737488355328 := by omega
  have h2' : (m2 : Int) < 140737488355328 := by omega
  have cA := Lib.hid (awake_any w hL)
  clear hL
  go_enter Tryz.func3, Tryz.ntmps3
  go_wp2_with (go_at_call 6; refine (cA.out).mono ?_; rintro e w1 ⟨rfl, f1⟩)
  go_ret
  exact ⟨rfl, f1⟩
end Go.Proofs.YtddcilmeignlmaaGreatDoor

