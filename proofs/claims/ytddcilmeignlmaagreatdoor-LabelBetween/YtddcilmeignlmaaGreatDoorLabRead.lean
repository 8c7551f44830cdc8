/-
  What reading bits tells of a label.
-/
import Derived.Test.YtddcilmeignlmaaGreatDoorUnpack
import Derived.Test.YtddcilmeignlmaaGreatDoorLabMath
namespace Go.Proofs.YtddcilmeignlmaaGreatDoor

theorem bitsTo_take (l : List UInt8) (n k : Nat) (h : k ≤ n) : (bitsTo l n).take k = bitsTo l k := by
  apply List.ext_getElem
  · simp [bitsTo]; omega
  · intro i h1 h2
    simp [bitsTo]

/-- The bits of a label's bytes. -/
theorem lab_bits {l : List UInt8} {ss : List (List Bool)} (L : Lab l ss) : bitsTo l (8 * l.length) = enc ss ++ List.replicate (8 * l.length - (enc ss).length) false := by
  have hl := L.rep.bl_len
  rw [bl_mkS] at hl
  apply List.ext_getElem
  · simp [bitsTo]; omega
  · intro i h1 h2
    have hi : i < 8 * l.length := by simpa [bitsTo] using h1
    have hb := L.rep.bit i
    rw [bl_mkS] at hb
    have e1 : (bitsTo l (8 * l.length))[i] = bitAt l i := by simp [bitsTo]
    rw [e1, hb, List.getD_eq_getElem?_getD]
    by_cases h : i < (enc ss).length
    · rw [List.getElem_append_left h, List.getElem?_eq_getElem h]; rfl
    · rw [List.getElem_append_right (by omega), List.getElem?_eq_none (by omega)]
      simp

theorem enc_last (ss : List (List Bool)) (h : ss ≠ []) : (enc ss).getLast? = some false := by
  obtain ⟨t, s, rfl⟩ : ∃ t s, ss = t ++ [s] := ⟨ss.dropLast, ss.getLast h, (List.dropLast_concat_getLast h).symm⟩
  rw [enc_append, enc_one, wr, ← List.append_assoc]
  simp

theorem lab_last {l : List UInt8} {ss : List (List Bool)} (L : Lab l ss) : (bitsTo l (8 * l.length)).getLast? ≠ some true := by
  rw [lab_bits L]
  intro h
  generalize 8 * l.length - (enc ss).length = k at h
  cases k with
  | zero =>
    rw [List.replicate_zero, List.append_nil] at h
    by_cases e : ss = []
    · subst e; simp [enc] at h
    · rw [enc_last ss e] at h; cases h
  | succ k =>
    rw [List.replicate_succ', ← List.append_assoc] at h
    simp at h

theorem lab_go {l : List UInt8} {ss : List (List Bool)} (L : Lab l ss) : go (bitsTo l (8 * l.length)) [] [] = some (ss, List.replicate (8 * l.length - (enc ss).length) false) := by
  rw [lab_bits L, go_enc ss _ [] L.ok, List.nil_append, go_end]
  cases 8 * l.length - (enc ss).length with
  | zero => simp
  | succ k => simp [List.replicate_succ]

theorem lab_len {l : List UInt8} {ss : List (List Bool)} (L : Lab l ss) : l.length ≤ 128 := by
  have hl := L.rep.bl_len
  rw [bl_mkS] at hl
  have := L.most
  omega

theorem lab_unOk {l : List UInt8} {ss : List (List Bool)} (L : Lab l ss) : UnOk l ((enc ss).length : Nat) := by
  have hl := L.rep.bl_len
  rw [bl_mkS] at hl
  have := L.most
  refine ⟨by omega, by omega, ?_, ?_⟩
  · simpa using hl
  · intro i hi
    have hb := L.rep.bit i
    rw [bl_mkS] at hb
    rw [hb, List.getD_eq_getElem?_getD, List.getElem?_eq_none (by simpa using hi)]
    rfl

/-- What was read, and fits, is a label of these steps. -/
theorem lab_of {l : List UInt8} {ss : List (List Bool)} (hm : l.length ≤ 128) (hu : UnOk l ((enc ss).length : Nat)) (he : bitsTo l (enc ss).length = enc ss) (ho : ∀ s ∈ ss, okS s) (hle : (enc ss).length ≤ 8 * l.length) : Lab l ss := by
  have hr := hu.rep
  rw [he] at hr
  exact ⟨ho, by omega, hr⟩

theorem said_txt (s : List Bool) : said (txt s) = s := by
  unfold said txt
  rw [List.map_map]
  conv => rhs; rw [← List.map_id s]
  apply List.map_congr_left
  intro b _
  cases b <;> rfl

end Go.Proofs.YtddcilmeignlmaaGreatDoor
