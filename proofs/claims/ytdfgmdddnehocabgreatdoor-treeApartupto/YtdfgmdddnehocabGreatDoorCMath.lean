/-
  Characters as the document tells them, and UTF-8 over lists of bytes: pure facts.
-/
import Derived.Lib.ValidLaws
import Derived.Lib.TrimUEq
set_option linter.unusedVariables false
namespace Go.Proofs.YtdfgmdddnehocabGreatDoor
open Go.Lib

/-! ### ranges -/
def inR (L : List (Int × Int)) (r : Int) : Bool := L.any fun p => decide (p.1 ≤ r ∧ r ≤ p.2)
def rStart : List (Int × Int) := [(97, 122), (65, 90), (95, 95), (0xC0, 0xD6), (0xD8, 0xF6), (0xF8, 0x2FF), (0x370, 0x37D), (0x37F, 0x1FFF), (0x200C, 0x200D), (0x2070, 0x218F), (0x2C00, 0x2FEF), (0x3001, 0xD7FF), (0xF900, 0xFDCF), (0xFDF0, 0xFFFD), (0x10000, 0xEFFFF)]
def rMore : List (Int × Int) := [(45, 46), (48, 57), (0xB7, 0xB7), (0x300, 0x36F), (0x203F, 0x2040)]
def rText : List (Int × Int) := [(9, 10), (13, 13), (0x20, 0xD7FF), (0xE000, 0xFFFD), (0x10000, 0x10FFFF)]
def txt (r : Int) : Bool := inR rText r
def nst (r : Int) : Bool := inR rStart r
def nch (r : Int) : Bool := nst r || inR rMore r
def what (r : Int) : Nat := if nst r then 3 else if inR rMore r then 2 else if txt r then 1 else 0

theorem inR_sub (L M : List (Int × Int)) (h : (L.all fun p => M.any fun q => decide (q.1 ≤ p.1 ∧ p.2 ≤ q.2)) = true) (r : Int) (hr : inR L r = true) : inR M r = true := by
  unfold inR at *
  obtain ⟨p, hp, h1⟩ := List.any_eq_true.1 hr
  obtain ⟨q, hq, h2⟩ := List.any_eq_true.1 (List.all_eq_true.1 h p hp)
  refine List.any_eq_true.2 ⟨q, hq, ?_⟩
  have h1 := of_decide_eq_true h1
  have h2 := of_decide_eq_true h2
  exact decide_eq_true ⟨by omega, by omega⟩
theorem txt_of_nst {r : Int} (h : nst r = true) : txt r = true := inR_sub rStart rText (by decide) r h
theorem txt_of_more {r : Int} (h : inR rMore r = true) : txt r = true := inR_sub rMore rText (by decide) r h
theorem txt_of_nch {r : Int} (h : nch r = true) : txt r = true := by
  unfold nch at h
  cases hn : nst r with
  | true => exact txt_of_nst hn
  | false => rw [hn] at h; exact txt_of_more (by simpa using h)
theorem what_txt (r : Int) : decide (1 ≤ what r) = txt r := by
  unfold what
  split
  · rename_i h; rw [txt_of_nst h]; rfl
  · split
    · rename_i h; rw [txt_of_more h]; rfl
    · split
      · rename_i h; rw [h]; rfl
      · rename_i h; simp at h; rw [h]; rfl
theorem what_nst (r : Int) : decide (3 ≤ what r) = nst r := by
  unfold what
  split
  · rename_i h; rw [h]; rfl
  · rename_i h; simp at h; rw [h]
    split
    · rfl
    · split <;> rfl
theorem what_nch (r : Int) : decide (2 ≤ what r) = nch r := by
  unfold what nch
  split
  · rename_i h; rw [h]; rfl
  · rename_i h; simp at h; rw [h]
    split
    · rename_i h; rw [h]; rfl
    · rename_i h; simp at h; rw [h]
      split <;> rfl
theorem what_le (r : Int) : what r ≤ 3 := by
  unfold what
  repeat' split
  all_goals omega

/-- the table, row by row: the first row that has the character. -/
def look : List (Int × Int × Nat) → Int → Nat
  | [], _ => 0
  | p :: t, r => if p.1 ≤ r ∧ r ≤ p.2.1 then p.2.2 else look t r
def tab : List (Int × Int × Nat) := rStart.map (fun p => (p.1, p.2, 3)) ++ rMore.map (fun p => (p.1, p.2, 2)) ++ rText.map (fun p => (p.1, p.2, 1))
theorem look_map (k : Nat) (r : Int) (M : List (Int × Int × Nat)) : ∀ L : List (Int × Int), look (L.map (fun p => (p.1, p.2, k)) ++ M) r = if inR L r then k else look M r
  | [] => by simp [inR]
  | p :: t => by
    have ih := look_map k r M t
    have e : inR (p :: t) r = (decide (p.1 ≤ r ∧ r ≤ p.2) || inR t r) := rfl
    rw [e]
    show (if p.1 ≤ r ∧ r ≤ p.2 then k else look (t.map (fun p => (p.1, p.2, k)) ++ M) r) = _
    by_cases h : p.1 ≤ r ∧ r ≤ p.2
    · rw [if_pos h, decide_eq_true h, Bool.true_or, if_pos rfl]
    · rw [if_neg h, ih, decide_eq_false h, Bool.false_or]
theorem look_tab (r : Int) : look tab r = what r := by
  unfold tab what nst txt
  rw [List.append_assoc, look_map, look_map]
  have := look_map 1 r [] rText
  rw [List.append_nil] at this
  rw [this]
  rfl
theorem tab_length : tab.length = 25 := by decide

/-! ### one character off its bytes, as the document reads it: the number, and how many bytes; no bytes: none that is right -/
abbrev cont (b : Nat) : Prop := 128 ≤ b ∧ b ≤ 191
def nxN (n b0 b1 b2 b3 : Nat) : Nat × Nat :=
  if b0 < 128 then (b0, 1)
  else if 194 ≤ b0 ∧ b0 ≤ 223 then (if 2 ≤ n ∧ cont b1 then ((b0 - 192) * 64 + (b1 - 128), 2) else (0, 0))
  else if 224 ≤ b0 ∧ b0 ≤ 239 then
    (if (3 ≤ n ∧ cont b1 ∧ cont b2) ∧ 2048 ≤ ((b0 - 224) * 64 + (b1 - 128)) * 64 + (b2 - 128) ∧ ¬ (55296 ≤ ((b0 - 224) * 64 + (b1 - 128)) * 64 + (b2 - 128) ∧ ((b0 - 224) * 64 + (b1 - 128)) * 64 + (b2 - 128) ≤ 57343)
     then (((b0 - 224) * 64 + (b1 - 128)) * 64 + (b2 - 128), 3) else (0, 0))
  else if 240 ≤ b0 ∧ b0 ≤ 244 then
    (if (4 ≤ n ∧ cont b1 ∧ cont b2 ∧ cont b3) ∧ 65536 ≤ (((b0 - 240) * 64 + (b1 - 128)) * 64 + (b2 - 128)) * 64 + (b3 - 128) ∧ (((b0 - 240) * 64 + (b1 - 128)) * 64 + (b2 - 128)) * 64 + (b3 - 128) ≤ 1114111
     then ((((b0 - 240) * 64 + (b1 - 128)) * 64 + (b2 - 128)) * 64 + (b3 - 128), 4) else (0, 0))
  else (0, 0)

theorem nxN_dec (n b0 b1 b2 b3 : Nat) (hn : 1 ≤ n) (h0 : b0 < 256) (h1 : b1 < 256) (h2 : b2 < 256) (h3 : b3 < 256) :
    ((nxN n b0 b1 b2 b3).2 = 0 → decodeN n b0 b1 b2 b3 = (65533, 1)) ∧ ((nxN n b0 b1 b2 b3).2 ≠ 0 → decodeN n b0 b1 b2 b3 = nxN n b0 b1 b2 b3 ∧ ¬ ((decodeN n b0 b1 b2 b3).1 = 65533 ∧ (decodeN n b0 b1 b2 b3).2 = 1)) := by
  by_cases a : b0 < 128
  · simp only [nxN, decodeN, a, if_true]
    simp
    omega
  unfold nxN decodeN cont
  simp only [if_neg a]
  by_cases a2 : 194 ≤ b0 ∧ b0 ≤ 223
  · rw [if_pos a2]
    by_cases c : 2 ≤ n ∧ 128 ≤ b1 ∧ b1 ≤ 191
    · rw [if_pos c, if_pos (show b0 / 32 = 6 ∧ (1 < n ∧ b1 / 64 = 2) by omega), if_pos (by omega)]
      refine ⟨fun h => by simp at h, fun _ => ⟨?_, by simp⟩⟩
      simp only [Prod.mk.injEq, and_true]; omega
    · rw [if_neg c, if_neg (by omega), if_neg (by omega), if_neg (by omega)]
      simp
  rw [if_neg a2]
  by_cases a3 : 224 ≤ b0 ∧ b0 ≤ 239
  · rw [if_pos a3, if_neg (show ¬ (b0 / 32 = 6 ∧ (1 < n ∧ b1 / 64 = 2)) by omega)]
    by_cases c : 3 ≤ n ∧ (128 ≤ b1 ∧ b1 ≤ 191) ∧ (128 ≤ b2 ∧ b2 ≤ 191)
    · rw [if_pos (show b0 / 16 = 14 ∧ (1 < n ∧ b1 / 64 = 2) ∧ (2 < n ∧ b2 / 64 = 2) by omega)]
      have e : b0 % 16 * 4096 + b1 % 64 * 64 + b2 % 64 = ((b0 - 224) * 64 + (b1 - 128)) * 64 + (b2 - 128) := by omega
      rw [e]
      generalize hv : ((b0 - 224) * 64 + (b1 - 128)) * 64 + (b2 - 128) = v
      have hv2 : v < 65536 := by omega
      by_cases d : 2048 ≤ v ∧ ¬ (55296 ≤ v ∧ v ≤ 57343)
      · rw [if_pos ⟨c, d⟩, if_pos (by omega)]
        exact ⟨fun h => by simp at h, fun _ => ⟨rfl, by simp⟩⟩
      · rw [if_neg (fun h => d h.2), if_neg (by omega)]
        simp
    · rw [if_neg (fun h => c h.1), if_neg (by omega), if_neg (by omega)]
      simp
  rw [if_neg a3]
  by_cases a4 : 240 ≤ b0 ∧ b0 ≤ 244
  · rw [if_pos a4, if_neg (show ¬ (b0 / 32 = 6 ∧ (1 < n ∧ b1 / 64 = 2)) by omega), if_neg (show ¬ (b0 / 16 = 14 ∧ (1 < n ∧ b1 / 64 = 2) ∧ (2 < n ∧ b2 / 64 = 2)) by omega)]
    by_cases c : 4 ≤ n ∧ (128 ≤ b1 ∧ b1 ≤ 191) ∧ (128 ≤ b2 ∧ b2 ≤ 191) ∧ (128 ≤ b3 ∧ b3 ≤ 191)
    · rw [if_pos (show b0 / 8 = 30 ∧ (1 < n ∧ b1 / 64 = 2) ∧ (2 < n ∧ b2 / 64 = 2) ∧ (3 < n ∧ b3 / 64 = 2) by omega)]
      have e : b0 % 8 * 262144 + b1 % 64 * 4096 + b2 % 64 * 64 + b3 % 64 = (((b0 - 240) * 64 + (b1 - 128)) * 64 + (b2 - 128)) * 64 + (b3 - 128) := by omega
      rw [e]
      generalize hv : (((b0 - 240) * 64 + (b1 - 128)) * 64 + (b2 - 128)) * 64 + (b3 - 128) = v
      by_cases d : 65536 ≤ v ∧ v ≤ 1114111
      · rw [if_pos ⟨c, d⟩, if_pos (by omega)]
        exact ⟨fun h => by simp at h, fun _ => ⟨rfl, by simp⟩⟩
      · rw [if_neg (fun h => d h.2), if_neg (by omega)]
        simp
    · rw [if_neg (fun h => c h.1), if_neg (by omega)]
      simp
  rw [if_neg a4]
  refine ⟨fun _ => ?_, fun h => by simp at h⟩
  by_cases x : 192 ≤ b0 ∧ b0 ≤ 193
  · by_cases y : b0 / 32 = 6 ∧ (1 < n ∧ b1 / 64 = 2)
    · rw [if_pos y, if_neg (by omega)]
    · rw [if_neg y, if_neg (by omega), if_neg (by omega)]
  · rw [if_neg (by omega), if_neg (by omega)]
    by_cases y : b0 / 8 = 30 ∧ (1 < n ∧ b1 / 64 = 2) ∧ (2 < n ∧ b2 / 64 = 2) ∧ (3 < n ∧ b3 / 64 = 2)
    · rw [if_pos y, if_neg (by omega)]
    · rw [if_neg y]

def nx (l : List UInt8) : Nat × Nat := nxN l.length (l.getD 0 0).toNat (l.getD 1 0).toNat (l.getD 2 0).toNat (l.getD 3 0).toNat
theorem nx_dec (l : List UInt8) (hne : l ≠ []) : ((nx l).2 = 0 → decodeL l = (65533, 1)) ∧ ((nx l).2 ≠ 0 → decodeL l = nx l ∧ ¬ ((decodeL l).1 = 65533 ∧ (decodeL l).2 = 1)) := by
  rw [decodeL_N]
  exact nxN_dec _ _ _ _ _ (List.length_pos_iff.2 hne) (UInt8.toNat_lt _) (UInt8.toNat_lt _) (UInt8.toNat_lt _) (UInt8.toNat_lt _)
theorem nxN_le (n b0 b1 b2 b3 : Nat) (hn : 1 ≤ n) : (nxN n b0 b1 b2 b3).2 ≤ n := by
  unfold nxN
  repeat' split
  all_goals (simp only; omega)
theorem nx_le (l : List UInt8) (hne : l ≠ []) : (nx l).2 ≤ l.length := nxN_le _ _ _ _ _ (List.length_pos_iff.2 hne)
theorem nxN_rune (n b0 b1 b2 b3 : Nat) : (nxN n b0 b1 b2 b3).1 ≤ 1114111 := by
  unfold nxN cont
  repeat' split
  all_goals (simp only; omega)
theorem nx_rune (l : List UInt8) : (nx l).1 ≤ 1114111 := nxN_rune _ _ _ _ _
/-- the same bytes in front: the same character. -/
theorem nxN_same (n b0 b1 b2 b3 m c0 c1 c2 c3 : Nat) (h : (nxN n b0 b1 b2 b3).2 ≠ 0) (hm : (nxN n b0 b1 b2 b3).2 ≤ m) (e0 : c0 = b0) (e1 : 1 < (nxN n b0 b1 b2 b3).2 → c1 = b1) (e2 : 2 < (nxN n b0 b1 b2 b3).2 → c2 = b2) (e3 : 3 < (nxN n b0 b1 b2 b3).2 → c3 = b3) :
    nxN m c0 c1 c2 c3 = nxN n b0 b1 b2 b3 := by
  subst e0
  unfold nxN at *
  by_cases a : c0 < 128
  · simp only [if_pos a]
  simp only [if_neg a] at *
  by_cases a2 : 194 ≤ c0 ∧ c0 ≤ 223
  · simp only [if_pos a2] at *
    split at h
    · rename_i c
      rw [if_pos c] at hm e1
      simp only at hm e1
      obtain rfl := e1 (by omega)
      rw [if_pos c, if_pos ⟨hm, c.2⟩]
    · simp at h
  simp only [if_neg a2] at *
  by_cases a3 : 224 ≤ c0 ∧ c0 ≤ 239
  · simp only [if_pos a3] at *
    split at h
    · rename_i c
      rw [if_pos c] at hm e1 e2
      simp only at hm e1 e2
      obtain rfl := e1 (by omega)
      obtain rfl := e2 (by omega)
      rw [if_pos c, if_pos ⟨⟨hm, c.1.2⟩, c.2⟩]
    · simp at h
  simp only [if_neg a3] at *
  by_cases a4 : 240 ≤ c0 ∧ c0 ≤ 244
  · simp only [if_pos a4] at *
    split at h
    · rename_i c
      rw [if_pos c] at hm e1 e2 e3
      simp only at hm e1 e2 e3
      obtain rfl := e1 (by omega)
      obtain rfl := e2 (by omega)
      obtain rfl := e3 (by omega)
      rw [if_pos c, if_pos ⟨⟨hm, c.1.2⟩, c.2⟩]
    · simp at h
  simp only [if_neg a4] at h
  simp at h
theorem nx_same (l m : List UInt8) (h : (nx l).2 ≠ 0) (hm : (nx l).2 ≤ m.length) (e : ∀ k, k < (nx l).2 → m.getD k 0 = l.getD k 0) : nx m = nx l := by
  unfold nx at *
  refine nxN_same _ _ _ _ _ _ _ _ _ _ h hm ?_ ?_ ?_ ?_
  · rw [e 0 (by omega)]
  · intro hk; rw [e 1 hk]
  · intro hk; rw [e 2 hk]
  · intro hk; rw [e 3 hk]
/-- the bytes behind the first one of a character are none that begin one. -/
theorem nxN_cont (n b0 b1 b2 b3 : Nat) : (1 < (nxN n b0 b1 b2 b3).2 → cont b1) ∧ (2 < (nxN n b0 b1 b2 b3).2 → cont b2) ∧ (3 < (nxN n b0 b1 b2 b3).2 → cont b3) ∧ (nxN n b0 b1 b2 b3).2 ≤ 4 := by
  unfold nxN
  by_cases a : b0 < 128
  · simp only [if_pos a]; omega
  simp only [if_neg a]
  by_cases a2 : 194 ≤ b0 ∧ b0 ≤ 223
  · simp only [if_pos a2]
    split
    · rename_i c; exact ⟨fun _ => c.2, fun h => absurd h (by simp), fun h => absurd h (by simp), by simp⟩
    · simp
  simp only [if_neg a2]
  by_cases a3 : 224 ≤ b0 ∧ b0 ≤ 239
  · simp only [if_pos a3]
    split
    · rename_i c; exact ⟨fun _ => c.1.2.1, fun _ => c.1.2.2, fun h => absurd h (by simp), by simp⟩
    · simp
  simp only [if_neg a3]
  by_cases a4 : 240 ≤ b0 ∧ b0 ≤ 244
  · simp only [if_pos a4]
    split
    · rename_i c; exact ⟨fun _ => c.1.2.1, fun _ => c.1.2.2.1, fun _ => c.1.2.2.2, by simp⟩
    · simp
  simp only [if_neg a4]
  simp
theorem nx_cont (l : List UInt8) (k : Nat) (h0 : 0 < k) (hk : k < (nx l).2) : cont (l.getD k 0).toNat := by
  have h := nxN_cont l.length (l.getD 0 0).toNat (l.getD 1 0).toNat (l.getD 2 0).toNat (l.getD 3 0).toNat
  unfold nx at hk
  obtain ⟨h1, h2, h3, h4⟩ := h
  match k, h0 with
  | 1, _ => exact h1 hk
  | 2, _ => exact h2 hk
  | 3, _ => exact h3 hk
  | k + 4, _ => omega
theorem nx_of_cont (l : List UInt8) (h : cont (l.getD 0 0).toNat) : (nx l).2 = 0 := by
  unfold cont at h
  unfold nx nxN
  rw [if_neg (by omega), if_neg (by omega), if_neg (by omega), if_neg (by omega)]

/-! ### all characters of a text -/
def runesF : Nat → List UInt8 → Option (List Nat)
  | 0, l => if l = [] then some [] else none
  | n + 1, l => if l = [] then some [] else if (nx l).2 = 0 then none else (runesF n (l.drop (nx l).2)).map ((nx l).1 :: ·)
def runes (l : List UInt8) : Option (List Nat) := runesF l.length l
theorem runesF_fuel : ∀ (n m : Nat) (l : List UInt8), l.length ≤ n → l.length ≤ m → runesF n l = runesF m l
  | 0, m, l, hn, _ => by
    have : l = [] := List.eq_nil_of_length_eq_zero (by omega)
    subst this
    cases m <;> rfl
  | n + 1, 0, l, _, hm => by
    have : l = [] := List.eq_nil_of_length_eq_zero (by omega)
    subst this
    rfl
  | n + 1, m + 1, l, hn, hm => by
    unfold runesF
    by_cases hne : l = []
    · rw [if_pos hne, if_pos hne]
    · rw [if_neg hne, if_neg hne]
      by_cases h : (nx l).2 = 0
      · rw [if_pos h, if_pos h]
      · have hl : 0 < l.length := List.length_pos_iff.2 hne
        rw [if_neg h, if_neg h, runesF_fuel n m (l.drop (nx l).2) (by rw [List.length_drop]; omega) (by rw [List.length_drop]; omega)]
theorem runes_nil : runes [] = some [] := rfl
theorem runes_step (l : List UInt8) (hne : l ≠ []) : runes l = if (nx l).2 = 0 then none else (runes (l.drop (nx l).2)).map ((nx l).1 :: ·) := by
  have hl : 0 < l.length := List.length_pos_iff.2 hne
  obtain ⟨n, hn⟩ : ∃ n, l.length = n + 1 := ⟨l.length - 1, by omega⟩
  unfold runes
  rw [hn]
  show (if l = [] then some [] else _) = _
  rw [if_neg hne]
  by_cases h : (nx l).2 = 0
  · rw [if_pos h, if_pos h]
  · rw [if_neg h, if_neg h, runesF_fuel n (l.drop (nx l).2).length _ (by rw [List.length_drop]; omega) (Nat.le_refl _)]
theorem valid_runes : ∀ (n : Nat) (l : List UInt8), l.length ≤ n → validD l = (runes l).isSome
  | 0, l, hn => by
    have : l = [] := List.eq_nil_of_length_eq_zero (by omega)
    subst this
    rfl
  | n + 1, l, hn => by
    by_cases hne : l = []
    · subst hne; rfl
    · have hd := nx_dec l hne
      have hl : 0 < l.length := List.length_pos_iff.2 hne
      rw [validD_step l hne, runes_step l hne]
      by_cases h : (nx l).2 = 0
      · rw [if_pos h, hd.1 h]; rfl
      · obtain ⟨e, e2⟩ := hd.2 h
        rw [if_neg h, if_neg e2, e, valid_runes n (l.drop (nx l).2) (by rw [List.length_drop]; omega)]
        simp
theorem validD_eq (l : List UInt8) : validD l = (runes l).isSome := valid_runes _ l (Nat.le_refl _)

theorem getD_app_left (a b : List UInt8) (k : Nat) (h : k < a.length) : (a ++ b).getD k 0 = a.getD k 0 := by
  simp [List.getD, List.getElem?_append_left h]
theorem nx_app (s t : List UInt8) (hne : s ≠ []) (h : (nx s).2 ≠ 0) : nx (s ++ t) = nx s := by
  have hl := nx_le s hne
  exact nx_same s (s ++ t) h (by rw [List.length_append]; omega) (fun k hk => getD_app_left s t k (by omega))
theorem runes_app : ∀ (n : Nat) (s t : List UInt8) (rs : List Nat), s.length ≤ n → runes s = some rs → runes (s ++ t) = (runes t).map (rs ++ ·)
  | n, [], t, rs, _, h => by
    rw [runes_nil] at h
    cases h
    simp
  | 0, x :: s, t, rs, hn, _ => by simp at hn
  | n + 1, x :: s, t, rs, hn, h => by
    have hne : x :: s ≠ [] := by simp
    generalize hq : x :: s = q at *
    rw [runes_step q hne] at h
    by_cases h0 : (nx q).2 = 0
    · rw [if_pos h0] at h; cases h
    · rw [if_neg h0] at h
      have hl := nx_le q hne
      have hp : 0 < q.length := List.length_pos_iff.2 hne
      cases hr : runes (q.drop (nx q).2) with
      | none => rw [hr] at h; cases h
      | some us =>
        rw [hr] at h
        obtain rfl : (nx q).1 :: us = rs := by simpa using h
        rw [runes_step (q ++ t) (by simp [hne]), nx_app q t hne h0, if_neg h0, List.drop_append_of_le_length hl, runes_app n (q.drop (nx q).2) t us (by rw [List.length_drop]; omega) hr]
        cases runes t <;> simp
theorem runes_cut : ∀ (n : Nat) (s t : List UInt8) (us ts : List Nat), s.length ≤ n → runes (s ++ t) = some us → runes t = some ts → ∃ rs, runes s = some rs
  | n, [], t, us, ts, _, _, _ => ⟨[], rfl⟩
  | 0, x :: s, t, us, ts, hn, _, _ => by simp at hn
  | n + 1, x :: s, t, us, ts, hn, h, ht => by
    have hne : x :: s ≠ [] := by simp
    generalize hq : x :: s = q at *
    have hp : 0 < q.length := List.length_pos_iff.2 hne
    rw [runes_step (q ++ t) (by simp [hne])] at h
    by_cases h0 : (nx (q ++ t)).2 = 0
    · rw [if_pos h0] at h; cases h
    · rw [if_neg h0] at h
      by_cases hk : (nx (q ++ t)).2 ≤ q.length
      · have e := nx_same (q ++ t) q h0 hk (fun k hk2 => (getD_app_left q t k (by omega)).symm)
        rw [← e, List.drop_append_of_le_length (by rw [e]; exact hk)] at h
        rw [← e] at h0 hk
        cases hr : runes (q.drop (nx q).2 ++ t) with
        | none => rw [hr] at h; cases h
        | some vs =>
          obtain ⟨rs, hrs⟩ := runes_cut n (q.drop (nx q).2) t vs ts (by rw [List.length_drop]; omega) hr ht
          exact ⟨(nx q).1 :: rs, by rw [runes_step q hne, if_neg h0, hrs]; rfl⟩
      · have hc := nx_cont (q ++ t) q.length hp (by omega)
        have hl := nx_le (q ++ t) (by simp [hne])
        rw [List.length_append] at hl
        have htne : t ≠ [] := by intro e; subst e; simp only [List.length_nil] at hl; omega
        have e : (q ++ t).getD q.length 0 = t.getD 0 0 := by simp [List.getD, List.getElem?_append_right (Nat.le_refl _)]
        rw [e] at hc
        rw [runes_step t htne, if_pos (nx_of_cont t hc)] at ht
        cases ht

/-! ### names, texts, blanks -/
def isNm : Option (List Nat) → Bool
  | some (r :: rs) => nst r && rs.all (fun q => nch q)
  | _ => false
def nameB (l : List UInt8) : Bool := decide (l.length ≤ 100) && isNm (runes l)
def isTx : Option (List Nat) → Bool
  | some rs => rs.all (fun q => txt q)
  | none => false
def textsB (l : List UInt8) : Bool := isTx (runes l)
def blk (b : UInt8) : Bool := decide (b.toNat = 9 ∨ b.toNat = 10 ∨ b.toNat = 13 ∨ b.toNat = 32)
def blankB (l : List UInt8) : Bool := l.all blk

theorem texts_left {s t : List UInt8} (h : textsB s = true) : textsB (s ++ t) = textsB t := by
  unfold textsB at *
  cases hr : runes s with
  | none => rw [hr] at h; cases h
  | some rs =>
    rw [hr] at h
    rw [runes_app _ s t rs (Nat.le_refl _) hr]
    cases runes t with
    | none => rfl
    | some ts =>
      have h : rs.all (fun q => txt q) = true := h
      show (rs ++ ts).all (fun q => txt q) = ts.all (fun q => txt q)
      rw [List.all_append, h, Bool.true_and]
theorem texts_right {s t : List UInt8} (h : textsB t = true) : textsB (s ++ t) = textsB s := by
  unfold textsB at *
  cases ht : runes t with
  | none => rw [ht] at h; cases h
  | some ts =>
    rw [ht] at h
    have h : ts.all (fun q => txt q) = true := h
    cases hr : runes s with
    | some rs =>
      rw [runes_app _ s t rs (Nat.le_refl _) hr, ht]
      show (rs ++ ts).all (fun q => txt q) = rs.all (fun q => txt q)
      rw [List.all_append, h, Bool.and_true]
    | none =>
      cases hu : runes (s ++ t) with
      | none => rfl
      | some us =>
        obtain ⟨rs, hrs⟩ := runes_cut _ s t us ts (Nat.le_refl _) hu ht
        rw [hrs] at hr; cases hr
theorem blank_app (s t : List UInt8) : blankB (s ++ t) = (blankB s && blankB t) := List.all_append
theorem nx_ascii (b : UInt8) (t : List UInt8) (h : b.toNat < 128) : nx (b :: t) = (b.toNat, 1) := by
  unfold nx nxN
  simp only [List.getD_cons_zero]
  rw [if_pos h]
theorem blank_texts : ∀ s : List UInt8, blankB s = true → textsB s = true
  | [], _ => rfl
  | b :: t, h => by
    have h2 : blk b = true ∧ blankB t = true := by simpa [blankB] using h
    have hb := of_decide_eq_true h2.1
    have ih := blank_texts t h2.2
    unfold textsB at *
    rw [runes_step _ (by simp), nx_ascii b t (by omega)]
    simp only [Nat.reduceEqDiff, if_false, List.drop_one, List.tail_cons]
    cases hr : runes t with
    | none => rw [hr] at ih; cases ih
    | some rs =>
      rw [hr] at ih
      have ih : rs.all (fun q => txt q) = true := ih
      show (b.toNat :: rs).all (fun q => txt q) = true
      rw [List.all_cons, ih, Bool.and_true]
      rcases hb with e | e | e | e <;> (rw [e]; decide)
theorem name_app {s t : List UInt8} (h1 : nameB s = true) (h2 : nameB t = true) (hl : s.length + t.length ≤ 100) : nameB (s ++ t) = true := by
  unfold nameB at *
  simp only [Bool.and_eq_true, decide_eq_true_eq] at h1 h2 ⊢
  refine ⟨by rw [List.length_append]; exact hl, ?_⟩
  obtain ⟨-, h1⟩ := h1
  obtain ⟨-, h2⟩ := h2
  match hr : runes s, h1 with
  | some (r :: rs), h1 =>
    match ht : runes t, h2 with
    | some (q :: qs), h2 =>
      rw [runes_app _ s t _ (Nat.le_refl _) hr, ht]
      have h1 : (nst r && rs.all (fun q => nch q)) = true := h1
      have h2 : (nst q && qs.all (fun q => nch q)) = true := h2
      show (nst r && (rs ++ q :: qs).all (fun q => nch q)) = true
      simp only [Bool.and_eq_true] at h1 h2
      rw [List.all_append, List.all_cons, h1.1, h1.2, h2.2]
      simp [nch, h2.1]
theorem name_left {s t : List UInt8} (h : nameB (s ++ t) = true) (hne : s ≠ []) (hs : textsB s = true) : nameB s = true := by
  unfold nameB textsB at *
  simp only [Bool.and_eq_true, decide_eq_true_eq] at h ⊢
  obtain ⟨hl, h⟩ := h
  rw [List.length_append] at hl
  refine ⟨by omega, ?_⟩
  match hr : runes s, hs with
  | some [], _ =>
    exfalso
    rw [runes_step s hne] at hr
    split at hr
    · cases hr
    · cases hd : runes (s.drop (nx s).2) <;> rw [hd] at hr <;> simp at hr
  | some (r :: rs), _ =>
    rw [runes_app _ s t _ (Nat.le_refl _) hr] at h
    cases ht : runes t with
    | none => rw [ht] at h; cases h
    | some ts =>
      rw [ht] at h
      have h : (nst r && (rs ++ ts).all (fun q => nch q)) = true := h
      show (nst r && rs.all (fun q => nch q)) = true
      rw [List.all_append] at h
      simp only [Bool.and_eq_true] at h ⊢
      exact ⟨h.1, h.2.1⟩

/-! ### the bytes of one character -/
def good (r : Int) : Prop := 0 ≤ r ∧ r ≤ 1114111 ∧ ¬ (55296 ≤ r ∧ r ≤ 57343)
def encL (r : Int) : List UInt8 := (Utf8.encode r).data.toList
theorem encL_def (r : Int) : encL r = (Utf8.encode r).data.toList := rfl
theorem ofNat_toNat (n : Nat) (h : n < 256) : (UInt8.ofNat n).toNat = n := by
  simp [Nat.mod_eq_of_lt h]
theorem nx2 (a b : UInt8) (t : List UInt8) : nx (a :: b :: t) = nxN (t.length + 2) a.toNat b.toNat (t.getD 0 0).toNat (t.getD 1 0).toNat := by
  unfold nx
  simp only [List.length_cons, List.getD_cons_zero, List.getD_cons_succ]
theorem nx3 (a b c : UInt8) (t : List UInt8) : nx (a :: b :: c :: t) = nxN (t.length + 3) a.toNat b.toNat c.toNat (t.getD 0 0).toNat := by
  unfold nx
  simp only [List.length_cons, List.getD_cons_zero, List.getD_cons_succ]
theorem nx4 (a b c d : UInt8) (t : List UInt8) : nx (a :: b :: c :: d :: t) = nxN (t.length + 4) a.toNat b.toNat c.toNat d.toNat := by
  unfold nx
  simp only [List.length_cons, List.getD_cons_zero, List.getD_cons_succ]
theorem enc_two (c : Nat) (c1 : ¬ c < 128) (c2 : c < 2048) (t : List UInt8) : nx (UInt8.ofNat (192 + c / 64) :: UInt8.ofNat (128 + c % 64) :: t) = (c, 2) := by
  rw [nx2, ofNat_toNat _ (by omega), ofNat_toNat _ (by omega)]
  unfold nxN
  rw [if_neg (by omega), if_pos (by omega), if_pos ⟨by omega, by unfold cont; omega⟩]
  have e : (192 + c / 64 - 192) * 64 + (128 + c % 64 - 128) = c := by omega
  rw [e]
theorem enc_three (c : Nat) (c1 : ¬ c < 2048) (c2 : c < 65536) (hs : ¬ (55296 ≤ c ∧ c ≤ 57343)) (t : List UInt8) : nx (UInt8.ofNat (224 + c / 4096) :: UInt8.ofNat (128 + c / 64 % 64) :: UInt8.ofNat (128 + c % 64) :: t) = (c, 3) := by
  rw [nx3, ofNat_toNat _ (by omega), ofNat_toNat _ (by omega), ofNat_toNat _ (by omega)]
  unfold nxN
  have e : ((224 + c / 4096 - 224) * 64 + (128 + c / 64 % 64 - 128)) * 64 + (128 + c % 64 - 128) = c := by omega
  rw [if_neg (by omega), if_neg (by omega), if_pos (by omega), e, if_pos ⟨⟨by omega, by unfold cont; omega, by unfold cont; omega⟩, by omega, by omega⟩]
theorem enc_four (c : Nat) (c1 : ¬ c < 65536) (c2 : c ≤ 1114111) (t : List UInt8) : nx (UInt8.ofNat (240 + c / 262144) :: UInt8.ofNat (128 + c / 4096 % 64) :: UInt8.ofNat (128 + c / 64 % 64) :: UInt8.ofNat (128 + c % 64) :: t) = (c, 4) := by
  rw [nx4, ofNat_toNat _ (by omega), ofNat_toNat _ (by omega), ofNat_toNat _ (by omega), ofNat_toNat _ (by omega)]
  unfold nxN
  have e : (((240 + c / 262144 - 240) * 64 + (128 + c / 4096 % 64 - 128)) * 64 + (128 + c / 64 % 64 - 128)) * 64 + (128 + c % 64 - 128) = c := by omega
  rw [if_neg (by omega), if_neg (by omega), if_neg (by omega), if_pos (by omega), e, if_pos ⟨⟨by omega, by unfold cont; omega, by unfold cont; omega, by unfold cont; omega⟩, by omega, by omega⟩]
theorem valid_good (c : Nat) (h : good c) : Utf8.valid (c : Int) = true := by
  unfold good at h
  unfold Utf8.valid
  simp only [Bool.or_eq_true, Bool.and_eq_true, decide_eq_true_eq]
  omega
theorem encode_of (r : Int) (c : Nat) (hc : (if Utf8.valid r then r.toNat else Utf8.runeError) = c) :
    Utf8.encode r = if c < 128 then ⟨#[UInt8.ofNat c]⟩ else if c < 2048 then ⟨#[UInt8.ofNat (192 + c / 64), UInt8.ofNat (128 + c % 64)]⟩ else if c < 65536 then ⟨#[UInt8.ofNat (224 + c / 4096), UInt8.ofNat (128 + c / 64 % 64), UInt8.ofNat (128 + c % 64)]⟩
      else ⟨#[UInt8.ofNat (240 + c / 262144), UInt8.ofNat (128 + c / 4096 % 64), UInt8.ofNat (128 + c / 64 % 64), UInt8.ofNat (128 + c % 64)]⟩ := by
  subst hc
  rfl
theorem encL_cases (c : Nat) (h : good c) : encL c = if c < 128 then [UInt8.ofNat c] else if c < 2048 then [UInt8.ofNat (192 + c / 64), UInt8.ofNat (128 + c % 64)] else if c < 65536 then [UInt8.ofNat (224 + c / 4096), UInt8.ofNat (128 + c / 64 % 64), UInt8.ofNat (128 + c % 64)]
    else [UInt8.ofNat (240 + c / 262144), UInt8.ofNat (128 + c / 4096 % 64), UInt8.ofNat (128 + c / 64 % 64), UInt8.ofNat (128 + c % 64)] := by
  have hv := valid_good c h
  rw [encL_def, encode_of (c : Int) c (by rw [hv, if_pos rfl, Int.toNat_natCast])]
  by_cases c1 : c < 128
  · rw [if_pos c1, if_pos c1]
  rw [if_neg c1, if_neg c1]
  by_cases c2 : c < 2048
  · rw [if_pos c2, if_pos c2]
  rw [if_neg c2, if_neg c2]
  by_cases c3 : c < 65536
  · rw [if_pos c3, if_pos c3]
  rw [if_neg c3, if_neg c3]
theorem nx_enc (r : Int) (h : good r) (t : List UInt8) : nx (encL r ++ t) = (r.toNat, (encL r).length) ∧ encL r ≠ [] := by
  obtain ⟨c, rfl⟩ : ∃ c : Nat, r = (c : Int) := ⟨r.toNat, by unfold good at h; omega⟩
  rw [encL_cases c h, Int.toNat_natCast]
  unfold good at h
  by_cases c1 : c < 128
  · rw [if_pos c1]
    refine ⟨?_, List.cons_ne_nil _ _⟩
    rw [List.singleton_append, nx_ascii _ _ (by rw [ofNat_toNat _ (by omega)]; exact c1), ofNat_toNat _ (by omega), List.length_singleton]
  rw [if_neg c1]
  by_cases c2 : c < 2048
  · rw [if_pos c2]
    refine ⟨?_, List.cons_ne_nil _ _⟩
    rw [List.cons_append, List.cons_append, List.nil_append, enc_two c c1 c2]
    rfl
  rw [if_neg c2]
  by_cases c3 : c < 65536
  · rw [if_pos c3]
    refine ⟨?_, List.cons_ne_nil _ _⟩
    rw [List.cons_append, List.cons_append, List.cons_append, List.nil_append, enc_three c c2 c3 (by omega)]
    rfl
  rw [if_neg c3]
  refine ⟨?_, List.cons_ne_nil _ _⟩
  rw [List.cons_append, List.cons_append, List.cons_append, List.cons_append, List.nil_append, enc_four c c3 (by omega)]
  rfl
theorem encL_len (r : Int) : (encL r).length ≤ 4 := by
  rw [encL_def, encode_of r _ rfl]
  generalize (if Utf8.valid r then r.toNat else Utf8.runeError) = c
  by_cases c1 : c < 128
  · rw [if_pos c1]; exact (by decide : 1 ≤ 4)
  rw [if_neg c1]
  by_cases c2 : c < 2048
  · rw [if_pos c2]; exact (by decide : 2 ≤ 4)
  rw [if_neg c2]
  by_cases c3 : c < 65536
  · rw [if_pos c3]; exact (by decide : 3 ≤ 4)
  rw [if_neg c3]
  exact (by decide : 4 ≤ 4)
theorem runes_enc (r : Int) (h : good r) (t : List UInt8) : runes (encL r ++ t) = (runes t).map (r.toNat :: ·) := by
  obtain ⟨h1, h2⟩ := nx_enc r h t
  have hl : 0 < (encL r).length := List.length_pos_iff.2 h2
  rw [runes_step _ (by simp [h2]), h1, if_neg (by simp only; omega), List.drop_left]
theorem name_one (r : Int) (h : good r) : nameB (encL r) = nst r := by
  have h1 := runes_enc r h []
  rw [List.append_nil, runes_nil] at h1
  have h2 := encL_len r
  unfold nameB
  rw [h1, decide_eq_true (by omega : (encL r).length ≤ 100)]
  show (true && (nst ((r.toNat : Nat) : Int) && true)) = nst r
  have : ((r.toNat : Nat) : Int) = r := by unfold good at h; omega
  rw [this]; simp
theorem texts_one (r : Int) (h : good r) : textsB (encL r) = txt r := by
  have h1 := runes_enc r h []
  rw [List.append_nil, runes_nil] at h1
  unfold textsB
  rw [h1]
  show (txt ((r.toNat : Nat) : Int) && true) = txt r
  have : ((r.toNat : Nat) : Int) = r := by unfold good at h; omega
  rw [this]; simp
theorem name_two (r q : Int) (h : good r) (k : good q) : nameB (encL r ++ encL q) = (nst r && nch q) := by
  have h1 := runes_enc q k []
  rw [List.append_nil, runes_nil] at h1
  have h0 := runes_enc r h (encL q)
  rw [h1] at h0
  have h2 := encL_len r
  have h3 := encL_len q
  unfold nameB
  rw [h0, decide_eq_true (by rw [List.length_append]; omega)]
  show (true && (nst ((r.toNat : Nat) : Int) && (nch ((q.toNat : Nat) : Int) && true))) = _
  have e1 : ((r.toNat : Nat) : Int) = r := by unfold good at h; omega
  have e2 : ((q.toNat : Nat) : Int) = q := by unfold good at k; omega
  rw [e1, e2]; simp
theorem texts_two (r q : Int) (h : good r) (k : good q) : textsB (encL r ++ encL q) = (txt r && txt q) := by
  have h1 := runes_enc q k []
  rw [List.append_nil, runes_nil] at h1
  have h0 := runes_enc r h (encL q)
  rw [h1] at h0
  unfold textsB
  rw [h0]
  show (txt ((r.toNat : Nat) : Int) && (txt ((q.toNat : Nat) : Int) && true)) = _
  have e1 : ((r.toNat : Nat) : Int) = r := by unfold good at h; omega
  have e2 : ((q.toNat : Nat) : Int) = q := by unfold good at k; omega
  rw [e1, e2]; simp
theorem txt_good {r : Int} (h : txt r = true) : good r := by
  unfold txt inR rText at h
  simp at h
  unfold good
  omega

/-! ### going through them, as the code does -/
def nameFrom (k : Nat) : List Nat → Bool
  | [] => true
  | r :: rs => decide (k ≤ what r) && nameFrom 2 rs
theorem nameFrom_two : ∀ rs : List Nat, nameFrom 2 rs = rs.all (fun q => nch q)
  | [] => rfl
  | r :: rs => by
    show (decide (2 ≤ what r) && nameFrom 2 rs) = _
    rw [what_nch, nameFrom_two rs, List.all_cons]
theorem nameFrom_three (r : Nat) (rs : List Nat) : nameFrom 3 (r :: rs) = (nst r && rs.all (fun q => nch q)) := by
  show (decide (3 ≤ what r) && nameFrom 2 rs) = _
  rw [what_nst, nameFrom_two]

end Go.Proofs.YtdfgmdddnehocabGreatDoor
