/-
  The document's own answers: how two rows stand, the shortest step between.
-/
import Derived.Test.YtddcilmeignlmaaGreatDoorLabOrd
import Derived.Test.YtddcilmeignlmaaGreatDoorOrder
import Derived.Lib.Hide
import Derived.Test.YtddcilmeignlmaaGreatDoorXTell
namespace Go.Proofs.YtddcilmeignlmaaGreatDoor
open Go.RowKit Go.Maps Go.Lib

theorem stand_sless {a b : List Bool} (h : sless a b) : stand a b = -1 := by
  obtain ⟨d, h1, h2, h3⟩ := h
  exact stand_bits a b d h1 h2 h3
theorem sless_stand {a b : List Bool} (ha : okS a) (hb : okS b) (h : stand a b < 0) : sless a b := by
  rcases sless_three a b with e | e | e
  · obtain rfl := okS_same ha hb e
    rw [stand_self] at h
    omega
  · exact e
  · have := stand_sless e
    rw [stand_sym a b] at this
    omega
theorem parts_one {lo up : List Bool} {k j : Nat} (P : Parts lo up k) (Q : Parts lo up j) : k = j := by
  rcases Nat.lt_trichotomy k j with h | h | h
  · exact absurd (Q.along k h) P.part
  · exact h
  · exact absurd (P.along j h) Q.part
theorem cond_not {lo up : List Bool} {k j : Nat} (P : Parts lo up k) (hj : j < k) (h0 : lo.getD j false = false) (hu : up = [] ∨ okS up) : up ≠ [] ∧ ¬ stand (preS lo j ++ [true]) up < 0 := by
  have ha := P.along j hj
  rw [h0] at ha
  rcases hu with rfl | hu
  · rw [show belowB [] j = true from by unfold belowB; rw [if_neg (by simp), if_pos (by simp)]] at ha
    cases ha
  · obtain ⟨u0, u1⟩ := okS_last hu
    refine ⟨by rintro rfl; simp at u0, ?_⟩
    have hlt : j < up.length := by
      rcases Nat.lt_or_ge j up.length with h | h
      · exact h
      · unfold belowB at ha
        rw [if_neg (by omega), if_pos h] at ha
        cases ha
    have hal : ∀ i, i < j → (preS lo j ++ [true]).getD i false = up.getD i false := fun i hi => by
      rw [mid_getD, if_pos hi, P.along i (by omega)]
      unfold belowB
      rw [if_neg (by omega), if_neg (by omega)]
    by_cases e : j + 1 = up.length
    · have : preS lo j ++ [true] = up := okS_same (okS_true _) hu fun i => by
        rcases Nat.lt_trichotomy i j with h | h | h
        · exact hal i h
        · subst h
          rw [mid_getD, if_neg (by omega), if_pos rfl]
          rw [show up.length - 1 = i by omega] at u1
          exact u1.symm
        · rw [mid_getD, if_neg (by omega), if_neg (by omega), getD_out (by omega)]
      rw [this, stand_self]
      omega
    · have huj : up.getD j false = false := by
        unfold belowB at ha
        rw [if_neg e, if_neg (by omega)] at ha
        exact ha.symm
      have := stand_bits up (preS lo j ++ [true]) j (fun i hi => (hal i hi).symm) huj (by rw [mid_getD, if_neg (by omega), if_pos rfl])
      rw [stand_sym up]
      omega
theorem cond_yes {lo up : List Bool} {k : Nat} (P : Parts lo up k) (h : lo = [] ∨ up = [] ∨ sless lo up) (hu : up = [] ∨ okS up) : lo.getD k false = false ∧ (up = [] ∨ stand (preS lo k ++ [true]) up < 0) := by
  have h0 := parts_nought P h
  refine ⟨h0, hu.imp id fun hu => ?_⟩
  rw [stand_sless (mid_below P h0 hu)]
  omega
theorem cond_low {lo : List Bool} {j : Nat} (h0 : lo.getD j false = false) : stand lo (preS lo j ++ [true]) < 0 := by
  rw [stand_sless (mid_above h0)]
  omega
theorem txt_preS (s : List Bool) (k : Nat) (l : List UInt8) (hl : l.length = k) (h : ∀ i, i < k → byteAt l i = chr (s.getD i false)) : l = txt (preS s k) := by
  refine List.ext_getElem (by rw [hl, txt_length, preS_length]) fun i h1 h2 => ?_
  have h3 := h i (by omega)
  rw [byteAt_lt h1] at h3
  rw [h3]
  simp [txt, preS]
theorem txt_set (s : List Bool) (k : Nat) : (txt (preS s (k + 1))).set k 49 = txt (preS s k ++ [true]) := by
  rw [preS_succ, txt_app', txt_app']
  have e : (txt (preS s k)).length = k := by rw [txt_length, preS_length]
  rw [List.set_append_right _ _ (by omega), e, Nat.sub_self]
  rfl
where txt_app' (s t : List Bool) : txt (s ++ t) = txt s ++ txt t := by simp [txt]
end Go.Proofs.YtddcilmeignlmaaGreatDoor

namespace Go.Proofs.YtddcilmeignlmaaGreatDoor
open Go.RowKit Go.Maps Go.Lib

theorem byteAt_set' (l : List UInt8) (j i : Nat) (b : UInt8) (h : j < l.length) : byteAt (l.set j b) i = if j = i then b else byteAt l i := by
  unfold byteAt
  by_cases e : j = i
  · subst e
    simp [h]
  · simp [List.getD_eq_getElem?_getD, e]
/-- What more tells. -/
def MoreTo (s : List Bool) (k : Nat) (X : List UInt8) (ok : Bool) : Prop := (s.getD k false = false → X = txt (preS s k ++ [true]) ∧ ok = true) ∧ (s.getD k false = true → ok = true → X.length = k + 1 ∧ byteAt X k = 48)
set_option maxHeartbeats 2000000 in
set_option maxRecDepth 100000 in
theorem more_any (w : World) (s : List Bool) (k : Nat) (hs : s.length ≤ 3000) (hk : k ≤ 3000) :
    Calls Tryz.prog 68 #[.string (sT s), .int .i64 ((k : Int) + 1)] w fun e w' => ∃ X ok, e = .returned (.tuple #[.string (mkS X), .bool ok]) ∧ Hid (MoreTo s k X ok) ∧ Fr [] w w' := by
  have hz := sT_size s
  obtain ⟨K, hK⟩ : ∃ K : Nat, K = k + 1 := ⟨_, rfl⟩
  have hKi : (k : Int) + 1 = (K : Int) := by omega
  rw [hKi]
  have i1 : ((sT s).size : Int) = (s.length : Int) := by omega
  have i2 : (s.length : Int) ≤ 3000 := by omega
  have HI := Lib.hid hz
  have i3 : (K : Int) ≤ 3001 := by omega
  have i4 : (0 : Int) ≤ (K : Int) := by omega
  have HK := Lib.hid hK
  clear hz hK hKi
  go_enter Tryz.func68, Tryz.ntmps68
  go_wp2_with (first | (refine wp_make rfl _ _ rfl K rfl rfl (by omega) ?_; intro w1 g hg b1 f1))
  go_loopw [7] (fun i wr => ∃ j : Nat, j ≤ K ∧ i = .int .i64 j ∧ (∃ l, Blk wr g l ∧ l.length = K ∧ Hid (∀ i, i < j → byteAt l i = chr (s.getD i false))) ∧ Hid (Fr [] w wr)) (fun i _ => K - (RowKit.intOf i).toNat)
  case atStart => exact ⟨0, by omega, rfl, ⟨_, b1, by simp, Lib.hid (fun i hi => by omega)⟩, Lib.hid f1⟩
  case round =>
    obtain ⟨j, hj, rfl, ⟨l, bl1, hl, HT⟩, FF⟩ := hrel
    have hj0 : (0 : Int) ≤ (j : Int) := by omega
    by_cases hlt : j < K
    · have hlt' : (j : Int) < (K : Int) := by omega
      have q1 := bl1.cell j (by omega)
      have z1 := bl1.frozen j
      have b2 := bl1.set j 48
      have fr2 := FF.out.setCell ⟨g, j, none⟩ (.int .u8 (48 : UInt8).toNat) (by intro h; simp at h; omega)
      have hl2 : (l.set j 48).length = K := by rw [List.length_set]; exact hl
      by_cases hin : j < s.length
      · have hin' : (j : Int) < (s.length : Int) := by omega
        have hix := run_idx (sT s) (j : Int) j rfl (by rw [HI.out]; exact hin)
        have e1 : byteAt (bl (sT s)) j = chr (s.getD j false) := txt_byte s j hin
        rw [e1] at hix
        obtain ⟨cj, hcj⟩ : ∃ cj, cj = chr (s.getD j false) := ⟨_, rfl⟩
        have HC := Lib.hid hcj
        rw [← hcj] at hix
        have b3 := b2.set j cj
        have fr3 := fr2.setCell ⟨g, j, none⟩ (.int .u8 cj.toNat) (by intro h; simp at h; omega)
        clear e1 hcj
        go_wp2_with fail
        refine ⟨⟨j + 1, by omega, by go_num, ⟨_, b3, by rw [List.length_set]; exact hl2, Lib.hid fun i hi => ?_⟩, Lib.hid fr3⟩, by simp [RowKit.intOf]; omega⟩
        rw [List.set_set, byteAt_set' _ _ _ _ (by omega)]
        by_cases e : j = i
        · subst e; rw [if_pos rfl, HC.out]
        · rw [if_neg e]; exact HT.out i (by omega)
      · have hin' : ¬ (j : Int) < (s.length : Int) := by omega
        go_wp2_with fail
        refine ⟨⟨j + 1, by omega, by go_num, ⟨_, b2, hl2, Lib.hid fun i hi => ?_⟩, Lib.hid fr2⟩, by simp [RowKit.intOf]; omega⟩
        rw [byteAt_set' _ _ _ _ (by omega)]
        by_cases e : j = i
        · subst e; rw [if_pos rfl, getD_out (by omega)]; rfl
        · rw [if_neg e]; exact HT.out i (by omega)
    · obtain rfl : j = K := by omega
      have hl0 := Lib.hid (txt_preS s j l hl HT.out)
      have hwK : IntKind.i64.wrap ((j : Int) - 1) = (j : Int) - 1 := wrapI (by omega) (by omega)
      have hlt' : ¬ (j : Int) < (j : Int) := by omega
      go_wp2_with fail
      go_loopw [8] (fun i wr => ∃ m : Nat, m ≤ j ∧ i = .int .i64 ((m : Int) - 1) ∧ (∃ l, Blk wr g l ∧ l.length = j ∧ Hid ((m = j → l = txt (preS s j)) ∧ (m < j → s.getD k false = true ∧ byteAt l k = 48))) ∧ Hid (Fr [] w wr)) (fun i _ => (RowKit.intOf i + 1).toNat)
      case atStart => exact ⟨j, by omega, rfl, ⟨l, bl1, hl, Lib.hid ⟨fun _ => hl0.out, fun h => by omega⟩⟩, FF⟩
      case round =>
        obtain ⟨m, hm, rfl, ⟨l2, bl2, hl2, HM⟩, F2⟩ := hrel
        by_cases hm0 : m = 0
        · subst hm0
          have hn0 : ¬ (0 : Int) ≤ ((0 : Nat) : Int) - 1 := by omega
          go_wp2_with fail
          go_ret2
          refine ⟨[], Or.inl ⟨rfl, Lib.hid ⟨fun h => ?_, fun _ h => by cases h⟩, F2.out⟩⟩
          have := (HM.out.2 (by have := HK.out; omega)).1
          rw [h] at this
          cases this
        · obtain ⟨p, rfl⟩ : ∃ p, m = p + 1 := ⟨m - 1, by omega⟩
          have e1 : ((p + 1 : Nat) : Int) - 1 = (p : Int) := by omega
          rw [e1]
          have hp0 : (0 : Int) ≤ (p : Int) := by omega
          have hp1 : (p : Int) < (j : Int) := by omega
          have q1 := bl2.cell p (by omega)
          have z1 := bl2.frozen p
          have hwp : IntKind.i64.wrap ((p : Int) - 1) = (p : Int) - 1 := wrapI (by omega) (by omega)
          by_cases h48 : byteAt l2 p = 48
          · rw [h48] at q1
            have b3 := bl2.set p 49
            have fr3 := F2.out.setCell ⟨g, p, none⟩ (.int .u8 (49 : UInt8).toNat) (by intro h; simp at h; omega)
            have hl3 : (l2.set p 49).length = j := by rw [List.length_set]; exact hl2
            have HX := Lib.hid (show MoreTo s k (l2.set p 49) true from ⟨fun h => by
                rcases Nat.lt_or_ge (p + 1) j with hh | hh
                · have := (HM.out.2 hh).1
                  rw [h] at this
                  cases this
                · have e2 : p + 1 = j := by omega
                  have e3 : p = k := by have := HK.out; omega
                  rw [HM.out.1 e2, ← e2, e3, txt_set]
                  exact ⟨rfl, rfl⟩, fun h _ => by
                rcases Nat.lt_or_ge (p + 1) j with hh | hh
                · refine ⟨by rw [hl3, HK.out], ?_⟩
                  rw [byteAt_set' _ _ _ _ (by omega), if_neg (by have := HK.out; omega)]
                  exact (HM.out.2 hh).2
                · exfalso
                  have e2 : p + 1 = j := by omega
                  have e3 : p = k := by have := HK.out; omega
                  rw [HM.out.1 e2, ← e2, e3, preS_succ] at h48
                  rw [byteAt_txt _ _ (by rw [List.length_append, preS_length]; simp), getD_append, if_neg (by rw [preS_length]; omega), preS_length, Nat.sub_self] at h48
                  have h49 : chr true = 48 := by rw [← h]; exact h48
                  exact absurd h49 (by decide)⟩)
            clear h48
            generalize l2.set p 49 = X at b3 hl3 HX
            go_wp2_with (first | (refine wp_conv rfl _ rfl X _ j _ rfl hl3 b3.bytes (fun _ => Or.inr ⟨g, 0, rfl⟩) ?_))
            go_ret2
            exact ⟨X, true, rfl, HX, fr3⟩
          · have h48' : (((byteAt l2 p).toNat : Int) == 48) = false := by
              rw [beq_eq_false_iff_ne]
              intro h
              exact h48 (UInt8.toNat_inj.1 (by simpa using Int.ofNat_inj.1 h))
            have b3 := bl2.set p 48
            have fr3 := F2.out.setCell ⟨g, p, none⟩ (.int .u8 (48 : UInt8).toNat) (by intro h; simp at h; omega)
            have hl3 : (l2.set p 48).length = j := by rw [List.length_set]; exact hl2
            have HX := Lib.hid (show s.getD k false = true ∧ byteAt (l2.set p 48) k = 48 from by
                rw [byteAt_set' _ _ _ _ (by omega)]
                rcases Nat.lt_or_ge (p + 1) j with hh | hh
                · refine ⟨(HM.out.2 hh).1, ?_⟩
                  rw [if_neg (by have := HK.out; omega)]
                  exact (HM.out.2 hh).2
                · have e2 : p + 1 = j := by omega
                  have e3 : p = k := by have := HK.out; omega
                  rw [if_pos e3]
                  refine ⟨?_, rfl⟩
                  rw [HM.out.1 e2, ← e2, e3, preS_succ] at h48
                  rw [byteAt_txt _ _ (by rw [List.length_append, preS_length]; simp), getD_append, if_neg (by rw [preS_length]; omega), preS_length, Nat.sub_self] at h48
                  cases hb : s.getD k false
                  · exact absurd (show chr ([s.getD k false].getD 0 false) = 48 from by rw [hb]; rfl) h48
                  · rfl)
            generalize byteAt l2 p = B at q1 h48'
            clear h48
            go_wp2_with fail
            refine ⟨⟨p, by omega, by go_num, ⟨_, b3, hl3, Lib.hid ⟨fun h => by omega, fun _ => HX.out⟩⟩, Lib.hid fr3⟩, by simp [RowKit.intOf]⟩
end Go.Proofs.YtddcilmeignlmaaGreatDoor

namespace Go.Proofs.YtddcilmeignlmaaGreatDoor
open Go.RowKit Go.Maps Go.Lib

set_option maxHeartbeats 2000000 in
set_option maxRecDepth 100000 in
theorem rcompare_any (w : World) (a b : ByteArray) (m1 : a.size < 9223372036854775808) (m2 : b.size < 9223372036854775808) :
    Calls Tryz.prog 67 #[.string a, .string b] w fun e w' => e = .returned (.int .i64 (compareBytes (bl a) (bl b))) ∧ Fr [] w w' := by
  obtain ⟨n1, h1⟩ : ∃ n, a.size = n := ⟨_, rfl⟩
  obtain ⟨n2, h2⟩ : ∃ n, b.size = n := ⟨_, rfl⟩
  have H1 : Hid ((bl a).length = n1) := h1
  have H2 : Hid ((bl b).length = n2) := h2
  have i1 : (a.size : Int) = (n1 : Int) := by omega
  have i2 : (b.size : Int) = (n2 : Int) := by omega
  have i3 : Hid (a.size = n1) := h1
  have i4 : Hid (b.size = n2) := h2
  rw [h1] at m1
  rw [h2] at m2
  have k1 : (n1 : Int) < 9223372036854775808 := by omega
  have k2 : (n2 : Int) < 9223372036854775808 := by omega
  clear h1 h2
  go_enter Tryz.func67, Tryz.ntmps67
  go_wp2_with go_in
  go_loopw [5] (fun i wr => ∃ j : Nat, j ≤ n1 ∧ j ≤ n2 ∧ i = .int .i64 j ∧ (∀ i, i < j → byteAt (bl a) i = byteAt (bl b) i) ∧ Fr [] w wr) (fun i _ => n1 - (RowKit.intOf i).toNat)
  case atStart => exact ⟨0, by omega, by omega, rfl, (fun i hi => by omega), Fr.refl _ _⟩
  case round =>
    obtain ⟨j, hj1, hj2, rfl, hEq, fr⟩ := hrel
    have HE : Hid (∀ i, i < j → byteAt (bl a) i = byteAt (bl b) i) := hEq
    clear hEq
    have hj0 : (0 : Int) ≤ (j : Int) := by omega
    by_cases hl : j < n1 ∧ j < n2
    · obtain ⟨hl1, hl2⟩ := hl
      have e1 : (j : Int) < (n1 : Int) := by omega
      have e2 : (j : Int) < (n2 : Int) := by omega
      have d1 : decide ((j : Int) < (n1 : Int)) = true := by simp; omega
      have q1 := run_idx a (j : Int) j rfl (by rw [i3.out]; exact hl1)
      have q2 := run_idx b (j : Int) j rfl (by rw [i4.out]; exact hl2)
      by_cases heq : byteAt (bl a) j = byteAt (bl b) j
      · have HQ : Hid (byteAt (bl a) j = byteAt (bl b) j) := heq
        rw [heq] at q1
        clear heq
        generalize ((byteAt (bl b) j).toNat : Int) = v at q1 q2
        go_wp2_with fail
        go_quiet (fail)
        go_wp2_with fail
        go_quiet (fail)
        go_wp2_with fail
        refine ⟨⟨j + 1, by omega, by omega, by go_num, ?_, fr.drewN _⟩, by simp [RowKit.intOf]; omega⟩
        intro i hi
        by_cases e : i = j
        · rw [e]; exact HQ.out
        · exact HE.out i (by omega)
      · have hne : ¬ (byteAt (bl a) j).toNat = (byteAt (bl b) j).toNat := fun e => heq (UInt8.toNat_inj.1 e)
        by_cases hlt : byteAt (bl a) j < byteAt (bl b) j
        · have hc : Hid (compareBytes (bl a) (bl b) = -1) := cb_lt j (bl a) (bl b) (by rw [H1.out]; exact hl1) (by rw [H2.out]; exact hl2) HE.out hlt
          rw [UInt8.lt_iff_toNat_lt] at hlt
          have g1 : (((byteAt (bl a) j).toNat : Nat) : Int) < (((byteAt (bl b) j).toNat : Nat) : Int) := by omega
          have g2 : ((((byteAt (bl a) j).toNat : Nat) : Int) == (((byteAt (bl b) j).toNat : Nat) : Int)) = false := by simp; omega
          have g3 : ((((byteAt (bl a) j).toNat : Nat) : Int) != (((byteAt (bl b) j).toNat : Nat) : Int)) = true := by simp; omega
          clear hne hlt heq
          generalize ((byteAt (bl a) j).toNat : Int) = v1 at q1 g1 g2 g3
          generalize ((byteAt (bl b) j).toNat : Int) = v2 at q2 g1 g2 g3
          clear g2 g3
          go_wp2_with fail
          go_quiet (fail)
          go_wp2_with fail
          go_ret
          exact ⟨by rw [hc.out]; rfl, fr.drewN _⟩
        · have hgt : byteAt (bl b) j < byteAt (bl a) j := by rw [UInt8.lt_iff_toNat_lt] at hlt ⊢; omega
          have hc : Hid (compareBytes (bl a) (bl b) = 1) := by
            show _ = _
            rw [cb_sym (bl b) (bl a), cb_lt j (bl b) (bl a) (by rw [H2.out]; exact hl2) (by rw [H1.out]; exact hl1) (fun i hi => (HE.out i hi).symm) hgt]
            rfl
          rw [UInt8.lt_iff_toNat_lt] at hlt
          have g1 : decide ((((byteAt (bl a) j).toNat : Nat) : Int) < (((byteAt (bl b) j).toNat : Nat) : Int)) = false := by simp; omega
          have g2 : ((((byteAt (bl a) j).toNat : Nat) : Int) == (((byteAt (bl b) j).toNat : Nat) : Int)) = false := by simp; omega
          have g3 : ((((byteAt (bl a) j).toNat : Nat) : Int) != (((byteAt (bl b) j).toNat : Nat) : Int)) = true := by simp; omega
          have g4 : decide ((((byteAt (bl b) j).toNat : Nat) : Int) < (((byteAt (bl a) j).toNat : Nat) : Int)) = true := by simp; omega
          clear g2 g3 hne hlt heq hgt
          have g1' : decide (j < n1) = true := by simp; omega
          generalize ((byteAt (bl a) j).toNat : Int) = v1 at q1 g1 g4
          generalize ((byteAt (bl b) j).toNat : Int) = v2 at q2 g1 g4
          go_wp2_with fail
          go_quiet (fail)
          go_wp2_with fail
          go_quiet (fail)
          go_wp2_with fail
          go_ret
          exact ⟨by rw [hc.out]; rfl, (fr.drewN _).drewN _⟩
    · have hend := cb_end (bl a) (bl b) j (by rw [H1.out, H2.out]; omega) (by rw [H1.out]; exact hj1) (by rw [H2.out]; exact hj2) HE.out
      rw [H1.out, H2.out] at hend
      have HC : Hid (compareBytes (bl a) (bl b) = if n1 < n2 then -1 else if n2 < n1 then 1 else 0) := hend
      clear hend
      have hstop : (decide ((j : Int) < (n1 : Int)) && decide ((j : Int) < (n2 : Int))) = false := by
        simp
        omega
      rcases Nat.lt_trichotomy n1 n2 with hc | hc | hc
      · have d1 : decide ((j : Int) < (n1 : Int)) = false := by simp; omega
        have d1' : decide (j < n1) = false := by simp; omega
        have d2 : (n1 : Int) < (n2 : Int) := by omega
        have hR : Hid (compareBytes (bl a) (bl b) = -1) := by show _ = _; rw [HC.out, if_pos hc]
        clear hl hstop hj1 hj2 hc
        go_wp2_with fail
        go_ret
        exact ⟨by rw [hR.out]; rfl, fr⟩
      · subst hc
        have hc := Nat.le_refl n1
        have d1 : decide ((j : Int) < (n1 : Int)) = false := by simp; omega
        have d1' : decide (j < n1) = false := by simp; omega
        have hR : Hid (compareBytes (bl a) (bl b) = 0) := by show _ = _; rw [HC.out, if_neg (Nat.lt_irrefl _), if_neg (Nat.lt_irrefl _)]
        clear hl hstop hj1 hj2 hc
        go_wp2_with fail
        go_ret
        exact ⟨by rw [hR.out]; rfl, fr⟩
      · have hR : Hid (compareBytes (bl a) (bl b) = 1) := by show _ = _; rw [HC.out, if_neg (by omega), if_pos hc]
        have d2 : decide ((n1 : Int) < (n2 : Int)) = false := by simp; omega
        have d2' : decide (n1 < n2) = false := by simp; omega
        have d3 : decide ((n2 : Int) < (n1 : Int)) = true := by simp; omega
        have d3' : decide (n2 < n1) = true := by simp; omega
        have d1 : decide ((j : Int) < (n1 : Int)) = true := by simp; omega
        have d1' : decide (j < n1) = true := by simp; omega
        have d4 : decide ((j : Int) < (n2 : Int)) = false := by simp; omega
        have d4' : decide (j < n2) = false := by simp; omega
        clear hl hstop hj1 hj2 hc
        go_wp2_with fail
        go_ret
        exact ⟨by rw [hR.out]; rfl, fr⟩


theorem rless_any (w : World) (a b : List Bool) (m1 : a.length ≤ 10000) (m2 : b.length ≤ 10000) :
    Calls Tryz.prog 46 #[.string (sT a), .string (sT b)] w fun e w' => e = .returned (.bool (decide (stand a b < 0))) ∧ Fr [] w w' := by
  have z1 := sT_size a
  have z2 := sT_size b
  have cC := Lib.hid (rcompare_any w (sT a) (sT b) (by omega) (by omega))
  rw [show compareBytes (bl (sT a)) (bl (sT b)) = stand a b from rfl] at cC
  clear z1 z2
  generalize stand a b = S at cC
  go_enter Tryz.func46, Tryz.ntmps46
  go_wp2_with fail
  refine cC.out.mono ?_
  rintro e w1 ⟨rfl, f1⟩
  go_wp2_with fail
  go_ret
  exact ⟨rfl, f1⟩
theorem less_no {a b : List Bool} (h : ¬ stand a b < 0) (w : World) (m1 : a.length ≤ 10000) (m2 : b.length ≤ 10000) :
    Calls Tryz.prog 46 #[.string (sT a), .string (sT b)] w fun e w' => e = .returned (.bool false) ∧ Fr [] w w' := by
  have := rless_any w a b m1 m2
  rw [decide_eq_false h] at this
  exact this
theorem less_yes {a b : List Bool} (h : stand a b < 0) (w : World) (m1 : a.length ≤ 10000) (m2 : b.length ≤ 10000) :
    Calls Tryz.prog 46 #[.string (sT a), .string (sT b)] w fun e w' => e = .returned (.bool true) ∧ Fr [] w w' := by
  have := rless_any w a b m1 m2
  rw [decide_eq_true h] at this
  exact this
theorem mid_len (lo : List Bool) (k : Nat) : (preS lo k ++ [true]).length = k + 1 := by rw [List.length_append, preS_length]; rfl
theorem sT_full {up : List Bool} (h : up ≠ []) : (sT up).toList.isEmpty = false := by
  rw [ByteArray.toList_eq]
  show (txt up).isEmpty = false
  cases up with
  | nil => exact absurd rfl h
  | cons x r => rfl
set_option maxHeartbeats 4000000 in
set_option maxRecDepth 100000 in
theorem shortest_any (w : World) (lo up : List Bool) (k : Nat) (P : Parts lo up k) (h : lo = [] ∨ up = [] ∨ sless lo up) (hu : up = [] ∨ okS up) (hlo : lo.length ≤ 3000) (hup : up.length ≤ 3000) (hk : k ≤ 3000) :
    Calls Tryz.prog 47 #[.string (sT lo), .string (sT up)] w fun e w' => e = .returned (.string (sT (preS lo k ++ [true]))) ∧ Fr [] w w' := by
  have HP := Lib.hid P
  have HQ := Lib.hid h
  have HU := Lib.hid hu
  clear P h hu
  go_enter Tryz.func47, Tryz.ntmps47
  go_wp2_with fail
  go_loopw [5] (fun i wr => ∃ j : Nat, j ≤ k ∧ i = .int .i64 ((j : Int) + 1) ∧ Hid (Fr [] w wr)) (fun i _ => k + 1 - (RowKit.intOf i).toNat)
  case atStart => exact ⟨0, by omega, rfl, Lib.hid (Fr.refl _ _)⟩
  case round =>
    obtain ⟨j, hj, rfl, FF⟩ := hrel
    have hj0 : (0 : Int) ≤ (j : Int) := by omega
    have hj1 : (j : Int) ≤ 3000 := by omega
    have hM := more_any wr lo j hlo (by omega)
    cases h0 : lo.getD j false with
    | true =>
      have hjk : j < k := by
        rcases Nat.lt_or_ge j k with h | h
        · exact h
        · obtain rfl : j = k := by omega
          rw [(cond_yes HP.out HQ.out HU.out).1] at h0
          cases h0
      have H0 := Lib.hid h0
      clear h0
      go_wp2_with fail
      refine hM.mono ?_
      rintro e w1 ⟨X, ok, rfl, HX, f1⟩
      cases ok with
      | false =>
        go_wp2_with fail
        exact ⟨⟨j + 1, by omega, by go_num, Lib.hid (FF.out.trans f1)⟩, by simp [RowKit.intOf]; omega⟩
      | true =>
        obtain ⟨hXl, hX8⟩ := HX.out.2 H0.out rfl
        have hsz : ((mkS X).size : Int) = (j : Int) + 1 := by rw [mkS_size]; omega
        have hix := run_idx (mkS X) (j : Int) j rfl (by rw [mkS_size]; omega)
        rw [bl_mkS, hX8] at hix
        clear hXl hX8 HX
        generalize mkS X = XX at hsz hix
        go_wp2_with fail
        exact ⟨⟨j + 1, by omega, by go_num, Lib.hid (FF.out.trans f1)⟩, by simp [RowKit.intOf]; omega⟩
    | false =>
      obtain ⟨XX, hXX⟩ : ∃ XX, XX = sT (preS lo j ++ [true]) := ⟨_, rfl⟩
      have hsz : (XX.size : Int) = (j : Int) + 1 := by rw [hXX, sT_size, mid_len]; omega
      have hix := run_idx XX (j : Int) j rfl (by omega)
      have e49 : byteAt (bl XX) j = 49 := by
        rw [hXX]
        show byteAt (txt _) j = 49
        rw [byteAt_txt _ _ (by rw [mid_len]; omega), mid_getD, if_neg (by omega), if_pos rfl]
        rfl
      rw [e49] at hix
      have cl := fun w' => less_yes (cond_low h0) w' (by omega) (by rw [mid_len]; omega)
      rw [← hXX] at cl
      have CL := Lib.hid cl
      have HX' := Lib.hid hXX
      clear e49 cl hXX
      by_cases hjk : j < k
      · obtain ⟨hne, hst⟩ := cond_not HP.out hjk h0 HU.out
        have cu := fun w' => less_no hst w' (by rw [mid_len]; omega) (by omega)
        rw [← HX'.out] at cu
        have CU := Lib.hid cu
        have hup0 := sT_full hne
        have H0 := Lib.hid h0
        clear cu hne hst h0
        go_wp2_with fail
        refine hM.mono ?_
        rintro e w1 ⟨X, ok, rfl, HX, f1⟩
        obtain ⟨rfl, rfl⟩ := HX.out.1 H0.out
        rw [show mkS (txt (preS lo j ++ [true])) = XX from HX'.out.symm]
        go_wp2_with fail
        refine (CL.out _).mono ?_
        rintro e w2 ⟨rfl, f2⟩
        go_wp2_with fail
        refine (CU.out _).mono ?_
        rintro e w3 ⟨rfl, f3⟩
        go_wp2_with fail
        exact ⟨⟨j + 1, by omega, by go_num, Lib.hid (((FF.out.trans f1).trans f2).trans f3)⟩, by simp [RowKit.intOf]; omega⟩
      · obtain rfl : j = k := by omega
        have hcy := (cond_yes HP.out HQ.out HU.out).2
        have H0 := Lib.hid h0
        clear h0
        by_cases hne : up = []
        · subst hne
          go_wp2_with fail
          refine hM.mono ?_
          rintro e w1 ⟨X, ok, rfl, HX, f1⟩
          obtain ⟨rfl, rfl⟩ := HX.out.1 H0.out
          rw [show mkS (txt (preS lo j ++ [true])) = XX from HX'.out.symm]
          rw [show sT [] = { data := #[] } from rfl]
          generalize sT lo = LL at CL
          go_wp2_with fail
          refine (CL.out _).mono ?_
          rintro e w2 ⟨rfl, f2⟩
          go_wp2_with fail
          go_ret
          exact ⟨by rw [HX'.out]; rfl, (FF.out.trans f1).trans f2⟩
        · have hst := hcy.resolve_left hne
          have hup0 := sT_full hne
          have cu := fun w' => less_yes hst w' (by rw [mid_len]; omega) (by omega)
          rw [← HX'.out] at cu
          have CU := Lib.hid cu
          clear cu hne hst
          go_wp2_with fail
          refine hM.mono ?_
          rintro e w1 ⟨X, ok, rfl, HX, f1⟩
          obtain ⟨rfl, rfl⟩ := HX.out.1 H0.out
          rw [show mkS (txt (preS lo j ++ [true])) = XX from HX'.out.symm]
          generalize sT up = UU at CU hup0
          generalize sT lo = LL at CL
          go_wp2_with fail
          refine (CL.out _).mono ?_
          rintro e w2 ⟨rfl, f2⟩
          go_wp2_with fail
          refine (CU.out _).mono ?_
          rintro e w3 ⟨rfl, f3⟩
          go_wp2_with fail
          go_ret
          exact ⟨by rw [HX'.out]; rfl, ((FF.out.trans f1).trans f2).trans f3⟩
end Go.Proofs.YtddcilmeignlmaaGreatDoor

