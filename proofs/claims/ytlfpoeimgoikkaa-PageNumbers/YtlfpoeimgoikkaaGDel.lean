/-
  A cell is taken out: the program's Delete.
-/
import Derived.Test.YtlfpoeimgoikkaaGIns
namespace Go.Proofs.Ytlfpoeimgoikkaa
open Go.RowKit Go.Maps

set_option maxHeartbeats 400000 in
set_option maxRecDepth 100000 in
theorem delete_shape (w : World) (ad : Option Addr) (n c : Nat) (l : List UInt8) (s : Int) (h : SlAt w ad n c l) (hk : okP l = false) :
    Calls Try.prog 26 #[.slice ad n c, .int .i64 s] w fun r w' => r = .returned (.bool false) ∧ w' = w := by
  go_enter Try.func26, Try.ntmps26
  go_wp2_with (go_at_call 53; refine (measure_any _ _ _ _ l h).mono ?_; rintro e1 w ⟨rfl, rfl⟩)
  go_ret
  exact ⟨rfl, rfl⟩

set_option maxHeartbeats 400000 in
set_option maxRecDepth 100000 in
theorem delete_no (w : World) (g c : Nat) (l : List UInt8) (k : UInt8) (x : Nat) (cs : List (List UInt8)) (s : Int) (h : RowB w g c l) (pg : Pg l k x cs) (hs : s < 0 ∨ (cs.length : Int) ≤ s) :
    Calls Try.prog 26 #[.slice (some ⟨g, 0, none⟩) 512 c, .int .i64 s] w fun r w' => r = .returned (.bool false) ∧ w' = w := by
  have hk := pg.ok
  have hsl := h.sl
  rw [pg.len] at hsl
  have q1 := h.cell 1 (by rw [pg.len]; omega)
  rw [pg.count] at q1
  have hf := pg.few
  by_cases hs0 : s < 0
  · clear hs
    go_enter Try.func26, Try.ntmps26
    go_wp2_with (go_at_call 53; refine (measure_any _ _ _ _ l hsl).mono ?_; rintro e1 w ⟨rfl, rfl⟩)
    go_ret
    exact ⟨rfl, rfl⟩
  · have hs1 : (cs.length : Int) ≤ s := by omega
    clear hs
    go_enter Try.func26, Try.ntmps26
    go_wp2_with (go_at_call 53; refine (measure_any _ _ _ _ l hsl).mono ?_; rintro e1 w ⟨rfl, rfl⟩)
    go_ret
    exact ⟨rfl, rfl⟩

theorem src_del (k : UInt8) (x : Nat) (cs : List (List UInt8)) (s : Nat) : ((pgB k x cs).drop (slotAt cs (s + 1))).take (elen (cs.drop (s + 1))) = enc (cs.drop (s + 1)) := src_ins k x cs (s + 1)

set_option maxHeartbeats 1000000 in
set_option maxRecDepth 100000 in
theorem delete_ok (w : World) (g c : Nat) (l : List UInt8) (k : UInt8) (x : Nat) (cs : List (List UInt8)) (s : Nat) (h : RowB w g c l) (pg : Pg l k x cs) (hs : s < cs.length) :
    Calls Try.prog 26 #[.slice (some ⟨g, 0, none⟩) 512 c, .int .i64 s] w fun r w' => r = .returned (.bool true) ∧ RowB w' g c (pgB k x (delC cs s)) ∧ Fr [g] w w' := by
  have hk := pg.ok
  have hsl := h.sl
  have hlen := pg.len
  rw [pg.len] at hsl
  have hcap := hsl.cap
  have h5 : At512 w g 0 c l := ⟨pg.len, h.bytes, hsl.cap⟩
  have q1 := h.cell 1 (by rw [pg.len]; omega)
  rw [pg.count] at q1
  have hf := pg.few
  have hfit := pg.fits
  have HEN : Hid (endOf l = 6 + elen cs) := pg.end
  have hs0 : ¬ (s : Int) < 0 := by omega
  have hs1 : ¬ (cs.length : Int) ≤ s := by omega
  have hle := slot_le cs (s + 1)
  have hsu := slot_succ cs s hs
  have hsp := elen_split cs (s + 1)
  have hde := delC_elen cs s hs
  obtain ⟨F, HFF⟩ : ∃ F : Nat, Hid (slotAt cs s = F) := ⟨_, rfl⟩
  obtain ⟨T, HT⟩ : ∃ T : Nat, Hid (slotAt cs (s + 1) = T) := ⟨_, rfl⟩
  obtain ⟨E, HE⟩ : ∃ E : Nat, Hid (6 + elen cs = E) := ⟨_, rfl⟩
  obtain ⟨M, HMM⟩ : ∃ M : Nat, Hid (elen (cs.drop (s + 1)) = M) := ⟨_, rfl⟩
  obtain ⟨m, Hm⟩ : ∃ m : Nat, Hid (cs[s].length = m) := ⟨cs[s].length, rfl⟩
  have hT1 : slotAt cs (s + 1) = 6 + elen (cs.take (s + 1)) := rfl
  have t0 : T = F + 2 + m := by rw [← HT.out, ← HFF.out, ← Hm.out]; exact hsu
  have t1 : T + M = E := by rw [← HT.out, ← HMM.out, ← HE.out]; omega
  have t2 : E ≤ 512 := by rw [← HE.out]; omega
  have HB : Hid (beh l F = T) := by
    show _ = _
    rw [t0, pg.eq, ← HFF.out, ← Hm.out]
    unfold beh
    rw [pgB_num k x cs s hs hfit]
  have HS : Hid (((l.drop T).take M) = enc (cs.drop (s + 1))) := by
    show _ = _
    rw [pg.eq, ← HT.out, ← HMM.out]; exact src_del k x cs s
  have s1 := h.bytes.sub T M
  rw [HS.out, Nat.zero_add] at s1
  have HL : Hid ((enc (cs.drop (s + 1))).length = M) := HMM.out
  have HD : Hid (over (over l F (enc (cs.drop (s + 1)))) (F + M) (zs (2 + m)) = hd6 k cs.length x ++ (enc (delC cs s) ++ zs (506 - elen (delC cs s)))) := by
    show _ = _
    rw [← HFF.out, ← HMM.out, ← Hm.out, pg.eq]
    exact del_bytes k x cs s hs hfit
  have u0 : (T : Int) = F + 2 + m := by omega
  have HT0 : Hid (T = F + 2 + m) := t0
  have HT1 : Hid (T + M = E) := t1
  have u1 : (T : Int) ≤ E := by omega
  have u2 : (E : Int) ≤ 512 := by omega
  have u3 : (F : Int) ≤ 512 := by omega
  have u4 : (E : Int) ≤ c := by omega
  have u5 : (F : Int) ≤ c := by omega
  have u6 : (T : Int) ≤ c := by omega
  have hnF : ¬ c = F := by omega
  clear hle hsu hsp hde hT1 t0 t1 u0
  have h2 : F + 2 ≤ 512 := by have := HT0.out; omega
  have HM : Hid ((enc (cs.drop (s + 1))).length = Nat.min (E - T) (512 - F)) := by
    show _ = _
    rw [HL.out, show E - T = M by have := HT1.out; omega]
    exact (Nat.min_eq_left (by have := HT1.out; have := HT0.out; omega)).symm
  obtain ⟨sp, hsp, ssp⟩ : ∃ sp : Option Addr, (if c = T then some (⟨g, 0, none⟩ : Addr) else some ⟨g, T, none⟩) = sp ∧ BytesAt w sp (enc (cs.drop (s + 1))) := by
    refine ⟨_, rfl, ?_⟩
    have s2 : BytesAt w (some ⟨g, 0 + T, none⟩) (enc (cs.drop (s + 1))) := by rw [Nat.zero_add]; exact s1
    have := s2.ifAd (c := c) (fun e => List.eq_nil_of_length_eq_zero (by rw [HL.out]; have := HT1.out; omega))
    rw [Nat.zero_add] at this
    exact this
  clear s1
  go_enter Try.func26, Try.ntmps26
  go_wp2_with (first
    | (go_at_call 53; refine (measure_any _ _ _ _ l hsl).mono ?_; rintro e1 w ⟨rfl, rfl⟩; rw [HEN.out, HE.out])
    | (go_at_call 41; refine (place_any _ g 0 c s l k x cs pg h5 (by omega)).mono ?_; rintro e1 w ⟨rfl, rfl⟩; rw [HFF.out]))
  go_region_law (first
    | (refine step_copyB rfl (.tmp 33) (.tmp 39) rfl g F (some ⟨g, F, none⟩) (512 - F) (c - F) sp (E - T) (c - T) c l (enc (cs.drop (s + 1))) (by simp [Act.eval, Act.put]) (by simp [Act.eval, Act.put]) h HM.out (fun _ => rfl) ssp (by rw [HL.out]; have := HT1.out; have := HT0.out; omega) ?_; intro w2 r2 f2)
    | (go_simp; go_at_call 43; refine (behind_any w.drew g 0 c F l ⟨h5.len, h5.bytes, h5.cap⟩ h2).mono ?_; rintro e1 w1 ⟨rfl, rfl⟩; rw [HB.out]))
  clear hnF hsp ssp HM q1 u1 u3 u6
  have v1 : F + M ≤ E := by have := HT0.out; have := HT1.out; omega
  have v1' : (F : Int) + M ≤ E := by omega
  have hnFM : ¬ c = F + M := by have := HT0.out; have := HT1.out; omega
  have v2' : (F : Int) + M ≤ c := by omega
  have hln : (goInt ((enc (cs.drop (s + 1))).length : Nat)) = .int .i64 (M : Int) := by rw [HL.out]; rfl
  have hl1 : (over l F (enc (cs.drop (s + 1)))).length = 512 := by rw [over_length _ _ _ (by rw [HL.out]; omega), hlen]
  rw [HL.out]
  go_wp2_with (refine wp_clearB rfl _ rfl _ g (F + M) _ _ c _ rfl r2 (fun _ => by first | rfl | rw [if_neg hnFM]) (by rw [hl1]; omega) ?_; intro w4 r4 f4; rw [show E - (F + M) = 2 + m by (have := HT0.out; have := HT1.out; omega), HD.out] at r4; have q4 := r4.cell 1 (by simp [hd6_length]; omega); rw [hd6_one _ _ _ _ (by omega)] at q4; have z4 := r4.frozen 1)
  go_ret
  refine ⟨rfl, ?_, (((Fr.refl [g] w).drew.trans f2).trans f4).setCell _ _ (by simp)⟩
  have h9 := r4.set 1 (UInt8.ofNat (cs.length - 1)) (by simp [hd6_length]; omega)
  rw [del_page k x cs s hs _ (by omega), u8_ofNat_toNat, Nat.mod_eq_of_lt (by omega)] at h9
  have e9 : ((cs.length - 1 : Nat) : Int) = (cs.length : Int) - 1 := by omega
  rw [e9] at h9
  exact h9
end Go.Proofs.Ytlfpoeimgoikkaa
