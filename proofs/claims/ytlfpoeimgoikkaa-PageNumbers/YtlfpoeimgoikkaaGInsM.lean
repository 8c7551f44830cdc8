/-
  A page's bytes with a cell put in, and with one taken out: plain mathematics, over what is written over what.
-/
import Derived.Test.YtlfpoeimgoikkaaGPut
namespace Go.Proofs.Ytlfpoeimgoikkaa

def hd6 (k : UInt8) (n x : Nat) : List UInt8 := [k, UInt8.ofNat n] ++ be4 x
theorem hd6_length (k : UInt8) (n x : Nat) : (hd6 k n x).length = 6 := rfl
theorem pgB_hd (k : UInt8) (x : Nat) (cs : List (List UInt8)) : pgB k x cs = hd6 k cs.length x ++ (enc cs ++ zs (506 - elen cs)) := by
  unfold pgB hd6; simp
theorem hd6_set (k : UInt8) (n m x : Nat) (R : List UInt8) : (hd6 k n x ++ R).set 1 (UInt8.ofNat m) = hd6 k m x ++ R := by
  unfold hd6 be4; rfl
theorem hd6_one (k : UInt8) (n x : Nat) (R : List UInt8) (h : n < 256) : (byteAt (hd6 k n x ++ R) 1).toNat = n := by
  show (UInt8.ofNat n).toNat = n
  rw [u8_ofNat_toNat]; omega
theorem zs_drop (n k : Nat) : (zs n).drop k = zs (n - k) := by simp [zs]

/-- The bytes behind the three writings of Insert, ahead of the count's. -/
theorem ins_bytes (k : UInt8) (x : Nat) (cs : List (List UInt8)) (s : Nat) (cell : List UInt8) (hf : elen cs + 2 + cell.length ≤ 506) :
    over (over (over (pgB k x cs) (slotAt cs s + 2 + cell.length) (enc (cs.drop s))) (slotAt cs s) (be2 cell.length)) (slotAt cs s + 2) cell = hd6 k cs.length x ++ (enc (insC cs s cell) ++ zs (506 - elen (insC cs s cell))) := by
  have hsp := elen_split cs s
  have hA : (hd6 k cs.length x ++ enc (cs.take s)).length = slotAt cs s := by
    rw [List.length_append, hd6_length]; rfl
  have hB : (enc (cs.drop s)).length = elen (cs.drop s) := rfl
  have e0 : pgB k x cs = (hd6 k cs.length x ++ enc (cs.take s)) ++ (enc (cs.drop s) ++ zs (506 - elen cs)) := by
    rw [pgB_hd, enc_split cs s]; simp
  obtain ⟨T, hT⟩ : ∃ T, T = enc (cs.drop s) ++ zs (506 - elen cs) := ⟨_, rfl⟩
  have hTl : T.length = elen (cs.drop s) + (506 - elen cs) := by rw [hT, List.length_append, zs_length]; rfl
  have hT3 : T = T.take 2 ++ ((T.drop 2).take cell.length ++ T.drop (2 + cell.length)) := by
    conv => lhs; rw [← List.take_append_drop 2 T, ← List.take_append_drop cell.length (T.drop 2), List.drop_drop]
  have h1 : over (pgB k x cs) (slotAt cs s + 2 + cell.length) (enc (cs.drop s)) = (hd6 k cs.length x ++ enc (cs.take s)) ++ (T.take 2 ++ ((T.drop 2).take cell.length ++ (enc (cs.drop s) ++ zs (506 - elen cs - (2 + cell.length))))) := by
    rw [e0, ← hT]
    have e1 : (hd6 k cs.length x ++ enc (cs.take s)) ++ T = ((hd6 k cs.length x ++ enc (cs.take s)) ++ (T.take 2 ++ (T.drop 2).take cell.length)) ++ T.drop (2 + cell.length) := by
      conv => lhs; rw [hT3]
      simp
    rw [e1, over_at _ _ _ _ (by rw [List.length_append, hA, List.length_append, List.length_take, List.length_take, List.length_drop]; omega)]
    rw [List.drop_drop, hT]
    have e2 : (enc (cs.drop s) ++ zs (506 - elen cs)).drop (2 + cell.length + (enc (cs.drop s)).length) = zs (506 - elen cs - (2 + cell.length)) := by
      rw [Nat.add_comm, ← List.drop_drop, List.drop_left, zs_drop]
    rw [e2]
    simp only [List.append_assoc]
  rw [h1, over_mid _ (T.take 2) _ _ _ hA.symm (by rw [be2_length, List.length_take]; omega)]
  rw [← List.append_assoc, over_mid _ ((T.drop 2).take cell.length) _ _ _ (by rw [List.length_append, hA, be2_length]) (by rw [List.length_take, List.length_drop]; omega)]
  rw [insC_enc, insC_elen]
  simp only [List.append_assoc]
  congr 6
  omega

/-- The bytes behind the two writings of Delete, ahead of the count's. -/
theorem del_bytes (k : UInt8) (x : Nat) (cs : List (List UInt8)) (s : Nat) (hs : s < cs.length) (hf : elen cs ≤ 506) :
    over (over (pgB k x cs) (slotAt cs s) (enc (cs.drop (s + 1)))) (slotAt cs s + elen (cs.drop (s + 1))) (zs (2 + cs[s].length)) = hd6 k cs.length x ++ (enc (delC cs s) ++ zs (506 - elen (delC cs s))) := by
  have hsp := elen_split cs s
  have hA : (hd6 k cs.length x ++ enc (cs.take s)).length = slotAt cs s := by
    rw [List.length_append, hd6_length]; rfl
  have hd := delC_elen cs s hs
  have hB : (enc (cs.drop (s + 1))).length = elen (cs.drop (s + 1)) := rfl
  have hBs : elen (cs.drop s) = 2 + cs[s].length + elen (cs.drop (s + 1)) := by rw [drop_at cs s hs, elen_cons]
  have e0 : pgB k x cs = (hd6 k cs.length x ++ enc (cs.take s)) ++ ((be2 cs[s].length ++ cs[s] ++ enc (cs.drop (s + 1))) ++ zs (506 - elen cs)) := by
    rw [pgB_hd, enc_split cs s, drop_at cs s hs, enc]; simp
  obtain ⟨T, hT⟩ : ∃ T, T = be2 cs[s].length ++ cs[s] ++ enc (cs.drop (s + 1)) := ⟨_, rfl⟩
  have hTl : T.length = 2 + cs[s].length + elen (cs.drop (s + 1)) := by rw [hT, List.length_append, List.length_append, be2_length]; rfl
  have h1 : over (pgB k x cs) (slotAt cs s) (enc (cs.drop (s + 1))) = (hd6 k cs.length x ++ enc (cs.take s)) ++ (enc (cs.drop (s + 1)) ++ (T.drop (elen (cs.drop (s + 1))) ++ zs (506 - elen cs))) := by
    rw [e0, ← hT, over_at _ _ _ _ hA.symm, hB, List.drop_append_of_le_length (by omega)]
  rw [h1, ← List.append_assoc, over_mid _ (T.drop (elen (cs.drop (s + 1)))) _ _ _ (by rw [List.length_append, hA]; rfl) (by rw [zs_length, List.length_drop]; omega)]
  unfold delC
  rw [enc_append, zs_add]
  simp only [List.append_assoc]
  congr 4
  have : elen (cs.take s ++ cs.drop (s + 1)) = elen (cs.take s) + elen (cs.drop (s + 1)) := elen_append _ _
  omega
theorem src_ins (k : UInt8) (x : Nat) (cs : List (List UInt8)) (s : Nat) : ((pgB k x cs).drop (slotAt cs s)).take (elen (cs.drop s)) = enc (cs.drop s) := by
  rw [pgB_slot]; exact List.take_left
theorem ins_page (k : UInt8) (x : Nat) (cs : List (List UInt8)) (s : Nat) (cell : List UInt8) (hs : s ≤ cs.length) (m : Nat) (hm : m = cs.length + 1) :
    (hd6 k cs.length x ++ (enc (insC cs s cell) ++ zs (506 - elen (insC cs s cell)))).set 1 (UInt8.ofNat m) = pgB k x (insC cs s cell) := by
  rw [hd6_set, pgB_hd, insC_length cs s cell hs, hm]
theorem del_page (k : UInt8) (x : Nat) (cs : List (List UInt8)) (s : Nat) (hs : s < cs.length) (m : Nat) (hm : m + 1 = cs.length) :
    (hd6 k cs.length x ++ (enc (delC cs s) ++ zs (506 - elen (delC cs s)))).set 1 (UInt8.ofNat m) = pgB k x (delC cs s) := by
  rw [hd6_set, pgB_hd]
  have := delC_length cs s hs
  rw [show m = (delC cs s).length by omega]
end Go.Proofs.Ytlfpoeimgoikkaa
