/-
  A cell is put in: the program's Insert.
-/
import Derived.Test.YtlfpoeimgoikkaaGInsM
namespace Go.Proofs.Ytlfpoeimgoikkaa
open Go.RowKit Go.Maps

set_option maxHeartbeats 400000 in
set_option maxRecDepth 100000 in
theorem insert_shape (w : World) (ad : Option Addr) (n c : Nat) (l : List UInt8) (s : Int) (v : Value) (h : SlAt w ad n c l) (hk : okP l = false) :
    Calls Try.prog 24 #[.slice ad n c, .int .i64 s, v] w fun r w' => r = .returned (.int .i64 4) ∧ w' = w := by
  go_enter Try.func24, Try.ntmps24
  go_wp2_with (go_at_call 53; refine (measure_any _ _ _ _ l h).mono ?_; rintro e1 w ⟨rfl, rfl⟩)
  go_ret
  exact ⟨rfl, rfl⟩

set_option maxHeartbeats 400000 in
set_option maxRecDepth 100000 in
theorem insert_arg (w : World) (g c : Nat) (l : List UInt8) (k : UInt8) (x : Nat) (cs : List (List UInt8)) (s : Int) (v : Value) (h : RowB w g c l) (pg : Pg l k x cs) (hs : s < 0 ∨ (cs.length : Int) < s) :
    Calls Try.prog 24 #[.slice (some ⟨g, 0, none⟩) 512 c, .int .i64 s, v] w fun r w' => r = .returned (.int .i64 2) ∧ w' = w := by
  have hk := pg.ok
  have hsl := h.sl
  rw [pg.len] at hsl
  have q1 := h.cell 1 (by rw [pg.len]; omega)
  rw [pg.count] at q1
  have hf := pg.few
  by_cases hs0 : s < 0
  · clear hs
    go_enter Try.func24, Try.ntmps24
    go_wp2_with (go_at_call 53; refine (measure_any _ _ _ _ l hsl).mono ?_; rintro e1 w ⟨rfl, rfl⟩)
    go_ret
    exact ⟨rfl, rfl⟩
  · have hs1 : (cs.length : Int) < s := by omega
    clear hs
    go_enter Try.func24, Try.ntmps24
    go_wp2_with (go_at_call 53; refine (measure_any _ _ _ _ l hsl).mono ?_; rintro e1 w ⟨rfl, rfl⟩)
    go_ret
    exact ⟨rfl, rfl⟩

set_option maxHeartbeats 400000 in
set_option maxRecDepth 100000 in
theorem insert_full (w : World) (g c : Nat) (l : List UInt8) (k : UInt8) (x : Nat) (cs : List (List UInt8)) (s : Nat) (ad : Option Addr) (n nc : Nat) (h : RowB w g c l) (pg : Pg l k x cs) (hs : s ≤ cs.length) (hn : n ≤ 1000000) (hr : 506 < elen cs + 2 + n) :
    Calls Try.prog 24 #[.slice (some ⟨g, 0, none⟩) 512 c, .int .i64 s, .slice ad n nc] w fun r w' => r = .returned (.int .i64 5) ∧ w' = w := by
  have hk := pg.ok
  have hsl := h.sl
  rw [pg.len] at hsl
  have q1 := h.cell 1 (by rw [pg.len]; omega)
  rw [pg.count] at q1
  have hf := pg.few
  have hfit := pg.fits
  have HE : Hid (endOf l = 6 + elen cs) := pg.end
  have hs0 : ¬ (s : Int) < 0 := by omega
  have hs1 : ¬ (cs.length : Int) < s := by omega
  have h255 : ((cs.length : Int) == 255) = false := by simp; omega
  have hlt : (512 : Int) - (6 + elen cs) < 2 + n := by omega
  go_enter Try.func24, Try.ntmps24
  go_wp2_with (go_at_call 53; refine (measure_any _ _ _ _ l hsl).mono ?_; rintro e1 w ⟨rfl, rfl⟩; rw [HE.out])
  go_ret
  exact ⟨rfl, rfl⟩

set_option maxHeartbeats 1000000 in
set_option maxRecDepth 100000 in
theorem insert_ok (w : World) (g c : Nat) (l : List UInt8) (k : UInt8) (x : Nat) (cs : List (List UInt8)) (s : Nat) (ad : Option Addr) (n nc : Nat) (cell : List UInt8) (h : RowB w g c l) (pg : Pg l k x cs) (hs : s ≤ cs.length)
    (hcl : cell.length = n) (hcb : BytesAt w ad cell) (hr : elen cs + 2 + n ≤ 506) :
    Calls Try.prog 24 #[.slice (some ⟨g, 0, none⟩) 512 c, .int .i64 s, .slice ad n nc] w fun r w' => r = .returned (.int .i64 0) ∧ RowB w' g c (pgB k x (insC cs s cell)) ∧ Fr [g] w w' := by
  have hk := pg.ok
  have hsl := h.sl
  have hlen := pg.len
  rw [pg.len] at hsl
  have h5 : At512 w g 0 c l := ⟨pg.len, h.bytes, hsl.cap⟩
  have q1 := h.cell 1 (by rw [pg.len]; omega)
  rw [pg.count] at q1
  have hf := pg.few
  have hfit := pg.fits
  have HE : Hid (endOf l = 6 + elen cs) := pg.end
  have hs0 : ¬ (s : Int) < 0 := by omega
  have hs1 : ¬ (cs.length : Int) < s := by omega
  have h255 : ((cs.length : Int) == 255) = false := by simp; omega
  have hlt : ¬ (512 : Int) - (6 + elen cs) < 2 + n := by omega
  have HL : Hid (cell.length = n) := hcl
  clear hcl
  have hle := slot_le cs s
  have hg := h.lt
  go_enter Try.func24, Try.ntmps24
  go_wp2_with (first
    | (go_at_call 53; refine (measure_any _ _ _ _ l hsl).mono ?_; rintro e1 w ⟨rfl, rfl⟩; rw [HE.out])
    | (go_at_call 42; refine (copied_any _ ad n nc cell HL.out hcb (by omega)).mono ?_; rintro e1 w1 ⟨b, rfl, b1, hb1, f1⟩)
    | (go_at_call 41; refine (place_any _ g 0 c s l k x cs pg (h5.kept f1 (by simp)) hs).mono ?_; rintro e1 w1 ⟨rfl, rfl⟩))
  have hcap := hsl.cap
  have hnf : ¬ c = slotAt cs s := by omega
  have hsp := elen_split cs s
  have hE : 6 + elen cs - slotAt cs s = elen (cs.drop s) := by unfold slotAt; omega
  have r1 := h.kept f1 (by simp)
  have HS : Hid (((l.drop (slotAt cs s)).take (elen (cs.drop s))) = enc (cs.drop s)) := by
    show _ = _
    rw [pg.eq]; exact src_ins k x cs s
  have s1 := r1.bytes.sub (slotAt cs s) (elen (cs.drop s))
  rw [HS.out, Nat.zero_add] at s1
  have hsl1 : slotAt cs s = 6 + elen (cs.take s) := rfl
  have HM : Hid ((enc (cs.drop s)).length = Nat.min (6 + elen cs - slotAt cs s) (512 - (slotAt cs s + 2 + n))) := by
    show (enc (cs.drop s)).length = _
    rw [hE, show (enc (cs.drop s)).length = elen (cs.drop s) from rfl]
    exact (Nat.min_eq_left (by omega)).symm
  have HF : Hid (slotAt cs s + 2 + n + (enc (cs.drop s)).length ≤ l.length) := by
    show slotAt cs s + 2 + n + elen (cs.drop s) ≤ l.length
    omega
  obtain ⟨T, HT⟩ : ∃ T : Nat, Hid (slotAt cs s + 2 + n = T) := ⟨_, rfl⟩
  obtain ⟨F, HFF⟩ : ∃ F : Nat, Hid (slotAt cs s = F) := ⟨_, rfl⟩
  obtain ⟨E, HEE⟩ : ∃ E : Nat, Hid (6 + elen cs = E) := ⟨_, rfl⟩
  have eT : ((slotAt cs s : Int) + 2 + n) = (T : Int) := by have := HT.out; omega
  have eE : ((6 : Int) + elen cs) = (E : Int) := by have := HEE.out; omega
  rw [eT, eE, HFF.out]
  rw [HT.out, HFF.out, HEE.out] at HM
  rw [HT.out] at HF
  rw [HFF.out] at s1 hnf
  have t1 : T ≤ 512 := by have := HT.out; omega
  have t2 : F ≤ E := by have := HFF.out; have := HEE.out; omega
  have t3 : E ≤ 512 := by have := HEE.out; omega
  have t1' : (T : Int) ≤ 512 := by omega
  have t2' : (F : Int) ≤ E := by omega
  have t3' : (E : Int) ≤ c := by omega
  have t4' : (512 : Int) ≤ c := by omega
  have t5' : (T : Int) ≤ c := by omega
  obtain ⟨dp, hdp, HDP⟩ : ∃ dp : Option Addr, (if c = T then some (⟨g, 0, none⟩ : Addr) else some ⟨g, T, none⟩) = dp ∧ Hid (0 < (enc (cs.drop s)).length → dp = some ⟨g, T, none⟩) := by
    refine ⟨_, rfl, ?_⟩
    intro h0
    have h1 : (enc (cs.drop s)).length = elen (cs.drop s) := rfl
    have := HF.out
    rw [if_neg (by omega)]
  clear hE hsp hsl1 eT eE
  go_region_law (refine step_copyB rfl (.tmp 57) (.tmp 61) rfl g T dp (512 - T) (c - T) (some ⟨g, F, none⟩) (E - F) (c - F) c l (enc (cs.drop s)) (by simp [Act.eval, Act.put]) (by simp [Act.eval, Act.put]) r1 HM.out HDP.out s1 HF.out ?_; intro w2 r2 f2)
  clear hnf hdp HDP HM s1 q1 t1' t2' t3'
  have t6 : F + 2 + n = T := by rw [← HFF.out]; exact HT.out
  have HT6 : Hid (F + 2 + n = T) := t6
  have t7 : F + 2 ≤ T := by omega
  have t7' : (F : Int) + 2 ≤ T := by omega
  have t8' : (F : Int) + 2 ≤ c := by omega
  have hTF : T - (F + 2) = n := by omega
  clear t6
  have hl1 : (over l T (enc (cs.drop s))).length = 512 := by rw [over_length _ _ _ HF.out, hlen]
  have hl2 : (over (over l T (enc (cs.drop s))) F (beN 2 n)).length = 512 := by rw [over_length _ _ _ (by rw [beN_length]; omega), hl1]
  have b2 : Blk w2 b cell := b1.drew.kept f2 (by simp; omega)
  have HF3 : Hid (over (over (over l T (enc (cs.drop s))) F (beN 2 n)) (F + 2) cell = hd6 k cs.length x ++ (enc (insC cs s cell) ++ zs (506 - elen (insC cs s cell)))) := by
    show _ = _
    rw [beN_two, ← HFF.out, ← HT.out, ← HL.out, pg.eq]
    exact ins_bytes k x cs s cell (by rw [HL.out]; omega)
  go_wp2_with (first
    | (go_at_call 54; refine (setNumber_any _ g F 2 _ c n _ r2 (by omega) (by rw [hl1]; omega) (by omega) (by omega)).mono ?_; rintro e1 w3 ⟨rfl, r3, f3⟩)
    | (refine wp_copyB rfl _ _ rfl g (F + 2) _ _ _ _ _ _ c _ cell rfl rfl r3 (by rw [HL.out]; exact (Nat.min_eq_left (by have := HT6.out; omega)).symm) (fun h0 => by rw [if_neg (by have := HL.out; have := HT6.out; omega)]) ((b2.kept f3 (by simp; omega)).bytes) (by rw [hl2, HL.out]; omega) ?_; intro w4 r4 f4; rw [HF3.out] at r4; have q4 := r4.cell 1 (by simp [hd6_length]; omega); rw [hd6_one _ _ _ _ (by omega)] at q4; have z4 := r4.frozen 1))
  all_goals
    go_ret
    refine ⟨rfl, ?_, ((((f1.mono (M := [g]) (by simp)).drew.trans f2).trans f3).trans f4).setCell _ _ (by simp)⟩
    have h9 := r4.set 1 (UInt8.ofNat (cs.length + 1)) (by simp [hd6_length]; omega)
    rw [ins_page k x cs s cell hs _ rfl, u8_ofNat_toNat, Nat.mod_eq_of_lt (by omega)] at h9
    have h10 : RowB (w4.setCell ⟨g, 1, none⟩ (Value.int .u8 ((cs.length : Int) + 1))) g c (pgB k x (insC cs s cell)) := by simpa using h9
    first
      | exact h10
      | (have hcF : c = F + 2 := by assumption
         rw [← hcF]
         exact h10)
end Go.Proofs.Ytlfpoeimgoikkaa
