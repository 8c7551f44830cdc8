/-
  DeviceLives: the walk.
-/
import Derived.Test.YtkenkgfohgmpnaaLike
import Derived.Test.YtkenkgfohgmpnaaAwake
namespace Go.Proofs.Ytkenkgfohgmpnaa
open Go.RowKit Go.Maps

theorem Pair.start {w w1 w2 : World} {k : Int} (d1 : Dev w1 (w.heap.size + 2) w.heap.size (w.heap.size + 1) k 0 false Tab.none Tab.none) (f1 : Fr [] w w1) (r2 : RDev w2 w1.heap.size (.slice none 0 0) k 0 false []) (f2 : Fr [] w1 w2) :
    Pair w w2 (w.heap.size + 2) w.heap.size (w.heap.size + 1) w1.heap.size (.slice none 0 0) k 0 false Tab.none Tab.none [] := by
  have hd := d1.lt
  have hs := f1.size
  refine ⟨d1.kept f2 (by simp) (by simp) (by simp), r2, Agree.start, fun x hx => ?_, ⟨by omega, by omega, by omega⟩, fun x hx => ?_, f1.trans f2⟩
  · rw [mem_rblocks] at hx
    rcases hx with rfl | hx | ⟨e, he, _⟩
    · exact ⟨by omega, by omega, by omega⟩
    · cases hx
    · cases he
  · rw [mem_rblocks] at hx
    rcases hx with rfl | hx | ⟨e, he, _⟩
    · exact hs
    · cases hx
    · cases he
theorem fates_none (w : World) : FatesAt w none [] := fun i f hf => by simp at hf

set_option maxHeartbeats 2000000 in
set_option maxRecDepth 100000 in
theorem lives_bad_short (w : World) (k : Int) (hk : k < 1 ∨ 65536 < k) (ad : Option Addr) (len cap : Nat) (h : len ≤ 80) :
    Calls Try.prog 3 #[.int .i64 k, .slice ad len cap] w fun e w' => e = .returned (.bool true) ∧ Fr [] w w' := by
  have h1 : ¬ (80 : Int) < (len : Int) := by omega
  go_enter Try.func3, Try.ntmps3
  go_wp2_with (first
    | (go_at_call 9; refine (new_no k _ hk).mono ?_; rintro e w1 ⟨rfl, hw1⟩; obtain rfl := hw1)
    | (go_at_call 10; refine (rnew_no k _ hk).mono ?_; rintro e w1 ⟨rfl, rfl⟩)
    | (go_at_call 11; refine (awake_law _).mono ?_; rintro e w2 ⟨rfl, f2⟩))
  go_ret
  exact ⟨rfl, f2⟩

set_option maxHeartbeats 2000000 in
set_option maxRecDepth 100000 in
theorem lives_bad_long (w : World) (k : Int) (hk : k < 1 ∨ 65536 < k) (ad : Option Addr) (len cap : Nat) (hcap : len ≤ cap) (h : 80 < len) :
    Calls Try.prog 3 #[.int .i64 k, .slice ad len cap] w fun e w' => e = .returned (.bool true) ∧ Fr [] w w' := by
  have h1 : (80 : Int) < (len : Int) := by omega
  have hcap' : (80 : Int) ≤ (cap : Int) := by omega
  go_enter Try.func3, Try.ntmps3
  go_wp2_with (first
    | (go_at_call 9; refine (new_no k _ hk).mono ?_; rintro e w1 ⟨rfl, hw1⟩; obtain rfl := hw1)
    | (go_at_call 10; refine (rnew_no k _ hk).mono ?_; rintro e w1 ⟨rfl, rfl⟩)
    | (go_at_call 11; refine (awake_law _).mono ?_; rintro e w2 ⟨rfl, f2⟩))
  go_ret
  exact ⟨rfl, f2⟩

set_option maxHeartbeats 4000000 in
set_option maxRecDepth 100000 in
theorem lives_short (w : World) (k : Int) (hk1 : 1 ≤ k) (hk2 : k ≤ 65536) (ad : Option Addr) (L : List DoV) (len cap : Nat) (hlen : L.length = len) (h : len ≤ 80) (hD : DosAt w ad L) :
    Calls Try.prog 3 #[.int .i64 k, .slice ad len cap] w fun e w' => e = .returned (.bool true) ∧ Fr [] w w' := by
  have h1 : ¬ (80 : Int) < (len : Int) := by omega
  have hm' : (len : Int) ≤ 80 := by omega
  have HL : Hid (L.length = len) := hlen
  clear hlen
  go_enter Try.func3, Try.ntmps3
  go_wp2_with (first
    | (go_at_call 9; refine (new_dev k _ hk1 hk2).mono ?_; rintro e w1 ⟨rfl, d1, f1⟩)
    | (go_at_call 10; refine (rnew_dev k _ hk1 hk2).mono ?_; rintro e w2 ⟨rfl, r2, f2⟩))
  have P0 := Pair.start d1 f1 r2 f2
  generalize w.heap.size + 2 = p at P0
  generalize w.heap.size + 1 = bo at P0
  generalize hbs : w.heap.size = bs at P0
  generalize w1.heap.size = r at P0
  clear d1 f1 r2 f2 hbs
  go_loopw [7] (fun i wr => ∃ j : Nat, j ≤ len ∧ i = .int .i64 j ∧ PairX w wr p bs bo r k) (fun i _ => len - (intOf i).toNat)
  case atStart => exact ⟨0, by omega, rfl, P0.x⟩
  case round =>
    obtain ⟨j, hj, rfl, lv, a, dn, S, O, E, Pj⟩ := hrel
    by_cases hlt : j < len
    · have hlt' : (j : Int) < (len : Int) := by omega
      have hj0 : (0 : Int) ≤ (j : Int) := by omega
      obtain ⟨dv, hdv⟩ : ∃ dv, L[j]? = some dv := ⟨_, List.getElem?_eq_getElem (by rw [HL.out]; exact hlt)⟩
      obtain ⟨ok, _⟩ := hD j dv hdv
      obtain ⟨_, b, off, had, c0, c1, c2, c3, c4⟩ := (hD.kept Pj.fr) j dv hdv
      subst had
      by_cases hf : dv.fl ≤ 1000
      · have hf' : ¬ (1000 : Int) < (dv.fl : Int) := by omega
        go_wp2_with (first
          | (go_at_call 12; refine (step_any Pj dv ok hf).mono ?_; rintro e w3 ⟨rfl, lv3, a3, dn3, S3, O3, E3, P3⟩)
          | (go_at_call 13; refine (down_dev P3.d).mono ?_; rintro e w4 ⟨rfl, hw4⟩; obtain rfl := hw4)
          | (go_at_call 14; refine (rdown P3.rr).mono ?_; rintro e w4 ⟨rfl, rfl⟩))
        exact ⟨⟨j + 1, by omega, by go_num, P3.x⟩, by simp [intOf]; omega⟩
      · have hf' : (1000 : Int) < (dv.fl : Int) := by omega
        go_wp2_with (go_at_call 11; refine (awake_law _).mono ?_; rintro e w3 ⟨rfl, f3⟩)
        go_ret
        exact ⟨rfl, Pj.fr.trans f3⟩
    · obtain rfl : j = len := by omega
      go_wp2_with (first
        | (go_at_call 15; refine (like_any Pj ad _ _ L HL.out hD (by omega)).mono ?_; rintro e w3 ⟨rfl, P3⟩)
        | (go_at_call 16; refine (wake_dev P3.d [] none 0 (fates_none _) (by simp)).mono ?_; rintro e w4 ⟨rfl, d4, f4⟩)
        | (go_at_call 17; refine (rwake_all (P3.rd f4) [] none 0 (fates_none _) (by simp) (fun _ _ => fates_none _)).mono ?_; rintro e w5 ⟨rfl, ⟨E5, r5, gr5, ag5⟩, f5⟩; have P5 := P3.move d4 f4 r5 f5 gr5 (ag5 _ _ P3.ag))
        | (go_at_call 15; refine (like_any P5 ad _ _ L HL.out hD (by omega)).mono ?_; rintro e w6 ⟨rfl, P6⟩)
        | (go_at_call 11; refine (awake_law _).mono ?_; rintro e w7 ⟨rfl, f7⟩))
      go_ret
      exact ⟨rfl, P6.fr.trans f7⟩

set_option maxHeartbeats 4000000 in
set_option maxRecDepth 100000 in
theorem lives_long (w : World) (k : Int) (hk1 : 1 ≤ k) (hk2 : k ≤ 65536) (ad : Option Addr) (L : List DoV) (len cap : Nat) (hlen : L.length = len) (hcap : len ≤ cap) (h : 80 < len) (hD : DosAt w ad L) :
    Calls Try.prog 3 #[.int .i64 k, .slice ad len cap] w fun e w' => e = .returned (.bool true) ∧ Fr [] w w' := by
  have h1 : (80 : Int) < (len : Int) := by omega
  have hcap' : (80 : Int) ≤ (cap : Int) := by omega
  have hD2 : DosAt w ad (L.take 80) := hD.take 80
  have HL : Hid ((L.take 80).length = 80) := (by rw [List.length_take, hlen]; omega : (L.take 80).length = 80)
  clear hlen
  go_enter Try.func3, Try.ntmps3
  go_wp2_with (first
    | (go_at_call 9; refine (new_dev k _ hk1 hk2).mono ?_; rintro e w1 ⟨rfl, d1, f1⟩)
    | (go_at_call 10; refine (rnew_dev k _ hk1 hk2).mono ?_; rintro e w2 ⟨rfl, r2, f2⟩))
  have P0 := Pair.start d1 f1 r2 f2
  generalize w.heap.size + 2 = p at P0
  generalize w.heap.size + 1 = bo at P0
  generalize hbs : w.heap.size = bs at P0
  generalize w1.heap.size = r at P0
  clear d1 f1 r2 f2 hbs
  go_loopw [7] (fun i wr => ∃ j : Nat, j ≤ 80 ∧ i = .int .i64 j ∧ PairX w wr p bs bo r k) (fun i _ => 80 - (intOf i).toNat)
  case atStart => exact ⟨0, by omega, rfl, P0.x⟩
  case round =>
    obtain ⟨j, hj, rfl, lv, a, dn, S, O, E, Pj⟩ := hrel
    by_cases hlt : j < 80
    · have hlt' : (j : Int) < (80 : Int) := by omega
      have hj0 : (0 : Int) ≤ (j : Int) := by omega
      obtain ⟨dv, hdv⟩ : ∃ dv, (L.take 80)[j]? = some dv := ⟨_, List.getElem?_eq_getElem (by rw [HL.out]; exact hlt)⟩
      obtain ⟨ok, _⟩ := hD2 j dv hdv
      obtain ⟨_, b, off, had, c0, c1, c2, c3, c4⟩ := (hD2.kept Pj.fr) j dv hdv
      subst had
      by_cases hf : dv.fl ≤ 1000
      · have hf' : ¬ (1000 : Int) < (dv.fl : Int) := by omega
        go_wp2_with (first
          | (go_at_call 12; refine (step_any Pj dv ok hf).mono ?_; rintro e w3 ⟨rfl, lv3, a3, dn3, S3, O3, E3, P3⟩)
          | (go_at_call 13; refine (down_dev P3.d).mono ?_; rintro e w4 ⟨rfl, hw4⟩; obtain rfl := hw4)
          | (go_at_call 14; refine (rdown P3.rr).mono ?_; rintro e w4 ⟨rfl, rfl⟩))
        exact ⟨⟨j + 1, by omega, by go_num, P3.x⟩, by simp [intOf]; omega⟩
      · have hf' : (1000 : Int) < (dv.fl : Int) := by omega
        go_wp2_with (go_at_call 11; refine (awake_law _).mono ?_; rintro e w3 ⟨rfl, f3⟩)
        go_ret
        exact ⟨rfl, Pj.fr.trans f3⟩
    · obtain rfl : j = 80 := by omega
      go_wp2_with (first
        | (go_at_call 15; refine (like_any Pj ad _ _ (L.take 80) HL.out hD2 (by omega)).mono ?_; rintro e w3 ⟨rfl, P3⟩)
        | (go_at_call 16; refine (wake_dev P3.d [] none 0 (fates_none _) (by simp)).mono ?_; rintro e w4 ⟨rfl, d4, f4⟩)
        | (go_at_call 17; refine (rwake_all (P3.rd f4) [] none 0 (fates_none _) (by simp) (fun _ _ => fates_none _)).mono ?_; rintro e w5 ⟨rfl, ⟨E5, r5, gr5, ag5⟩, f5⟩; have P5 := P3.move d4 f4 r5 f5 gr5 (ag5 _ _ P3.ag))
        | (go_at_call 15; refine (like_any P5 ad _ _ (L.take 80) HL.out hD2 (by omega)).mono ?_; rintro e w6 ⟨rfl, P6⟩)
        | (go_at_call 11; refine (awake_law _).mono ?_; rintro e w7 ⟨rfl, f7⟩))
      go_ret
      exact ⟨rfl, P6.fr.trans f7⟩

end Go.Proofs.Ytkenkgfohgmpnaa
