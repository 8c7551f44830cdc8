/-
  The statements' own trial of a log: one record is kept over a crash, another one is lost.
-/
import Derived.Test.YticmjdblcomecaaGreatQRead
import Derived.Test.YticmjdblcomecaaGreatQForce
namespace Go.Proofs.YticmjdblcomecaaGreat
open Go.RowKit Go.Maps

/-- The record that is kept, and the one that is lost. -/
def awR : Rec := ⟨1, 1, 3, 7, 0, 0, 0, 0, [], []⟩
def awQ : Rec := ⟨36, 1, 4, 8, 0, 0, 0, 0, [], []⟩
theorem awR_right : rightB awR = true := by decide
theorem awQ_right : rightB awQ = true := by decide
theorem awR_len : (encL awR).length = 35 := by kernel_rfl
theorem awQ_len : (encL awQ).length = 35 := by kernel_rfl
theorem awR_dec : decR (encL awR) = some (awR, 35) := by kernel_rfl
theorem aw_blk : ((blk1 1 (encL awR)).drop 13).take 35 = encL awR := by kernel_rfl
theorem aw_P : stampP ((blk1 1 (encL awR)).take 64) = 1 := by kernel_rfl
theorem aw_T : stampT ((blk1 1 (encL awR)).take 64) = 1 := by kernel_rfl
theorem aw_U : stampU ((blk1 1 (encL awR)).take 64) = ((35 : Nat) : Int) := by kernel_rfl
theorem aw_0 : stampP ((Dv.latest Dv.Tab.none Dv.Tab.none 2).take 64) = 0 := by kernel_rfl

set_option maxHeartbeats 400000 in
theorem end_any (w : World) (p d : Nat) (x : Lg) (hx : LBox w p x) (hd : x.dv = .pointer (some ⟨d, 0, none⟩)) : Calls Tryz.prog 17 #[.pointer (some ⟨p, 0, none⟩)] w fun e w' => e = .returned (.int .i64 x.fin) ∧ w' = w := by
  have c0 := hx.c0
  rw [hd] at c0
  have c6 := hx.c6
  generalize x.fin = F at c6 ⊢
  go_enter Tryz.func17, Tryz.ntmps17
  go_wp2_with (go_at_call 39; refine (lmade_yes _ p d c0).mono ?_; rintro e w ⟨rfl, rfl⟩)
  go_ret
  exact ⟨rfl, rfl⟩
set_option maxHeartbeats 400000 in
theorem safe_any (w : World) (p d : Nat) (x : Lg) (hx : LBox w p x) (hd : x.dv = .pointer (some ⟨d, 0, none⟩)) : Calls Tryz.prog 16 #[.pointer (some ⟨p, 0, none⟩)] w fun e w' => e = .returned (.int .i64 x.safe) ∧ w' = w := by
  have c0 := hx.c0
  rw [hd] at c0
  have c5 := hx.c5
  generalize x.safe = F at c5 ⊢
  go_enter Tryz.func16, Tryz.ntmps16
  go_wp2_with (go_at_call 39; refine (lmade_yes _ p d c0).mono ?_; rintro e w ⟨rfl, rfl⟩)
  go_ret
  exact ⟨rfl, rfl⟩

theorem spots_none (w : World) (r : Rec) (h1 : r.old = []) (h2 : r.new = []) : SpotsAt w r zeroS :=
  ⟨by rw [h1]; exact BytesAt.nil _ _, by rw [h2]; exact BytesAt.nil _ _, fun _ => ⟨by rw [h1]; rfl, rfl⟩, fun _ => ⟨by rw [h2]; rfl, rfl⟩⟩
theorem dev_types {w : World} {p bs bo : Nat} {n a : Int} {dn : Bool} {S O : Dv.Tab} (h : Dv.Dev w p bs bo n a dn S O) {L : List Nat} (hT : ∀ g ∈ L, ∃ cur t, w.heap[g]? = some (.cells cur t) ∧ t ≠ 95) : p ∉ L ∧ bs ∉ L ∧ bo ∉ L := by
  have hm : ∀ b X, Dv.tabAt w b X → b ∉ L := by
    intro b X ht hb
    obtain ⟨D, ⟨es, clock, he, _⟩, _⟩ := ht
    obtain ⟨cur, t, hc, _⟩ := hT b hb
    rw [he] at hc
    cases hc
  refine ⟨fun hp => ?_, hm bs S h.safe, hm bo O h.opn⟩
  obtain ⟨cur, t, hc, hne⟩ := hT p hp
  rw [h.cells] at hc
  cases hc
  exact hne rfl

theorem aw_fates (w : World) : Dv.FatesAt w none [] := by
  unfold Dv.FatesAt
  simp

set_option maxHeartbeats 1000000 in
set_option maxRecDepth 100000 in
theorem awake_any (w : World) : Calls Tryz.prog 4 #[] w fun e w' => e = .returned (.bool true) ∧ Fr [] w w' := by
  go_enter Tryz.func4, Tryz.ntmps4
  go_wp2_with fail
  refine (Dv.new_dev 8 w (by omega) (by omega)).mono ?_
  rintro e w1 ⟨rfl, D1, f1⟩
  have F1 := fr_dv f1
  have hlt := D1.lt
  obtain ⟨d, Hd⟩ : ∃ d, Hid (w.heap.size + 2 = d) := ⟨_, rfl⟩
  obtain ⟨bs, Hbs⟩ : ∃ bs, Hid (w.heap.size = bs) := ⟨_, rfl⟩
  obtain ⟨bo, Hbo⟩ : ∃ bo, Hid (w.heap.size + 1 = bo) := ⟨_, rfl⟩
  rw [Hd.out, Hbo.out, Hbs.out] at D1 hlt
  rw [Hd.out]
  clear f1
  go_wp2_with fail
  refine (open_zero w1 d bs bo 8 0 _ _ D1 2 5 1 (by omega) (by omega) (by omega) (by omega) (by omega) (by rw [aw_0]; omega)).mono ?_
  rintro e w2 ⟨p, rfl, L2, hp, F2⟩
  have D2 := dev_kept D1 F2 (by simp) (by simp) (by simp)
  have hpd : p ≠ d ∧ p ≠ bs ∧ p ≠ bo := by omega
  go_wp2_with fail
  refine (append_ok w2 p d _ 2 5 1 1 1 1 1 none none 0 0 0 0 L2 rfl (by omega) (by omega) (by omega) (by omega) (by omega) [] [] (BsAt.nil _) (LsAt.nil _) (by omega) (by omega) ⟨0, 0, 3, 7, 0, 0, 0, 0, [], []⟩ zeroS (spots_none _ _ rfl rfl) awR_right (by show ((encL awR).length : Int) ≤ _; rw [awR_len]; omega)).mono ?_
  rintro e w3 ⟨rfl, g1, d1, g2, d2, L3, B3, S3, ng1, ng2, F3⟩
  replace ng1 := ng1 rfl
  replace ng2 := ng2 rfl
  have L3' : LBox w3 p ⟨.pointer (some ⟨d, 0, none⟩), 2, 5, ((1 : Nat) : Int), 1, 1, ((35 : Nat) : Int) + 1, .slice (some ⟨g1, 0, none⟩) 35 d1, 1, .slice (some ⟨g2, 0, none⟩) 1 d2⟩ := by
    have h : LBox w3 p ⟨.pointer (some ⟨d, 0, none⟩), 2, 5, 1, 1, 1, 1 + ((encL awR).length : Int), .slice (some ⟨g1, 0, none⟩) (0 + (encL awR).length) d1, 1, .slice (some ⟨g2, 0, none⟩) (0 + 1) d2⟩ := L3
    rw [awR_len] at h
    exact h
  have B3' : BsAt w3 (some ⟨g1, 0, none⟩) 35 d1 (encL awR) := by
    have h : BsAt w3 (some ⟨g1, 0, none⟩) (0 + (encL awR).length) d1 ([] ++ encL awR) := B3
    rw [awR_len] at h
    exact h
  have S3' : LsAt w3 (some ⟨g2, 0, none⟩) 1 d2 [1] := S3
  have F3' : Fr [p] w2 w3 := F3
  clear L3 B3 S3 F3
  have D3 := dev_kept D2 F3' (by simp; exact hpd.1.symm) (by simp; exact hpd.2.1.symm) (by simp; exact hpd.2.2.symm)
  obtain ⟨g1', e1, by3, hd1⟩ := B3'.at (by omega) awR_len
  cases e1
  go_wp2_with fail
  refine (force_one w3 p d bs bo 8 _ _ D3 2 5 1 35 g1 d1 _ (encL awR) L3' by3 awR_len (by omega) (by omega) hd1 (by omega) (by omega) (by omega) (by omega) hpd.1 hpd.2.1 hpd.2.2).mono ?_
  rintro e w4 ⟨rfl, L4, D4, F4⟩
  have B4 := own0_kept B3' F4 (fun g hg cur t h => by
    simp at hg
    rcases hg with rfl | rfl | rfl | rfl
    · rw [L3'] at h; cases h; decide
    · rw [D3.cells] at h; cases h; decide
    · obtain ⟨D, ⟨es, clock, he, _⟩, _⟩ := D3.safe; rw [he] at h; cases h
    · obtain ⟨D, ⟨es, clock, he, _⟩, _⟩ := D3.opn; rw [he] at h; cases h)
  have S4 := own0_kept S3' F4 (fun g hg cur t h => by
    simp at hg
    rcases hg with rfl | rfl | rfl | rfl
    · rw [L3'] at h; cases h; decide
    · rw [D3.cells] at h; cases h; decide
    · obtain ⟨D, ⟨es, clock, he, _⟩, _⟩ := D3.safe; rw [he] at h; cases h
    · obtain ⟨D, ⟨es, clock, he, _⟩, _⟩ := D3.opn; rw [he] at h; cases h)
  clear L3' B3' S3' by3
  go_wp2_with fail
  refine (append_ok w4 p d _ 2 5 1 1 (((35 : Nat) : Int) + 1) (((35 : Nat) : Int) + 1) 1 (some ⟨g1, 0, none⟩) (some ⟨g2, 0, none⟩) 35 1 d1 d2 L4 rfl (by omega) (by omega) (by omega) (by omega) (by omega) (encL awR) [1] B4 S4 (by omega) (by omega) ⟨0, 0, 4, 8, 0, 0, 0, 0, [], []⟩ zeroS (spots_none _ _ rfl rfl) awQ_right (by show ((encL awQ).length : Int) ≤ _; rw [awQ_len]; omega)).mono ?_
  rintro e w5 ⟨rfl, g5, d5, g6, d6, L5, -, -, -, -, F5⟩
  have L5' : LBox w5 p ⟨.pointer (some ⟨d, 0, none⟩), 2, 5, 1, 1, 36, 71, .slice (some ⟨g5, 0, none⟩) (35 + (encL awQ).length) d5, 1, .slice (some ⟨g6, 0, none⟩) (1 + 1) d6⟩ := by
    have h : LBox w5 p ⟨.pointer (some ⟨d, 0, none⟩), 2, 5, 1, 1, 36, 36 + ((encL awQ).length : Int), .slice (some ⟨g5, 0, none⟩) (35 + (encL awQ).length) d5, 1, .slice (some ⟨g6, 0, none⟩) (1 + 1) d6⟩ := L5
    rw [show (36 : Int) + ((encL awQ).length : Int) = 71 by rw [awQ_len]; rfl] at h
    exact h
  have hN5 := dev_types D4 (L := p :: ((Value.ownBlock (.slice (some ⟨g1, 0, none⟩) 35 d1)).toList ++ (Value.ownBlock (.slice (some ⟨g2, 0, none⟩) 1 d2)).toList)) (fun g hg => by
    rcases List.mem_cons.1 hg with rfl | hg
    · exact ⟨_, _, L4, by decide⟩
    · rcases List.mem_append.1 hg with hg | hg
      · obtain ⟨cur, h⟩ := own0_type B4 g hg
        exact ⟨cur, _, h, by decide⟩
      · obtain ⟨cur, h⟩ := own0_type S4 g hg
        exact ⟨cur, _, h, by decide⟩)
  have D5 := dev_kept D4 F5 hN5.1 hN5.2.1 hN5.2.2
  have hF35 : Fr [] w w5 := by
    have hw1 : w.heap.size ≤ w1.heap.size := F1.size
    have hw2 := F2.size
    have q3 : Fr [] w w3 := (F1.trans F2).then F3' (fun i hi hm => by simp at hm; omega)
    have q4 : Fr [] w w4 := q3.then F4 (fun i hi hm => by simp at hm; have h1 := Hd.out; have h2 := Hbs.out; have h3 := Hbo.out; omega)
    exact q4.then F5 (fun i hi hm => by simp [Value.ownBlock] at hm; omega)
  clear B4 S4 L4 L5 F5 hN5
  go_wp2_with (first
    | (go_at_call 16; refine (safe_any _ p d _ L5' rfl).mono ?_; rintro e w5 ⟨rfl, rfl⟩)
    | (go_at_call 17; refine (end_any _ p d _ L5' rfl).mono ?_; rintro e w5 ⟨rfl, rfl⟩))
  clear L5'
  refine (Dv.wake_dev D5 [] none 0 (aw_fates w5) (by simp)).mono ?_
  rintro e w6 ⟨rfl, D6, f6⟩
  have F6 := fr_dv f6
  have hlat : Dv.latest (Dv.wokenAt (Dv.over Dv.Tab.none (Dv.Tab.put Dv.Tab.none 2 (blk1 1 (encL awR)))) Dv.Tab.none []) Dv.Tab.none 2 = blk1 1 (encL awR) := by
    simp [Dv.latest, Dv.wokenAt, Dv.over, Dv.Tab.put, Dv.Tab.none, Dv.Tab.get]
  have F06 : Fr [] w w6 := hF35.then F6 (fun i hi hm => by simp at hm; have h1 := Hd.out; have h2 := Hbs.out; have h3 := Hbo.out; omega)
  go_wp2_with fail
  refine (open_one w6 d bs bo 8 0 _ _ D6 2 5 2 (by omega) (by omega) (by omega) (by omega) (by omega) 35 awR (by rw [hlat]; exact aw_P) (by rw [hlat, aw_T]; omega) (by rw [hlat, aw_T]; omega) (by rw [hlat]; exact aw_U) (by omega) (by omega) (by rw [hlat, aw_blk]; exact awR_dec) rfl (by decide) (by decide)).mono ?_
  rintro e w7 ⟨m, gb, gl, cl, rfl, L7, B7, S7, hm7, F7⟩
  rw [hlat, aw_blk] at B7
  obtain ⟨gb', e1, by7, -⟩ := B7.at (by omega) awR_len
  cases e1
  clear hlat D6 F6 f6 B7
  go_wp2_with (go_at_call 17; refine (end_any _ m d _ L7 rfl).mono ?_; rintro e w7 ⟨rfl, rfl⟩)
  refine (read_one w7 m d 2 5 2 1 _ _ 1 gl cl gb 35 35 (encL awR) awR L7 S7 by7 awR_len (by omega) (by omega) (by omega) awR_dec).mono ?_
  rintro e w8 ⟨s, rfl, F8⟩
  have L8 := L7.kept F8 (by simp)
  have S8 := own0_kept (L := []) S7 F8 (fun g' hg' => nomatch hg')
  have by8 := by7.kept F8 (by simp)
  have eR : recV awR s = #[.int .i64 1, .int .i64 1, .int .u8 3, .int .i64 7, .int .i64 0, .int .i64 0, .int .i64 0, .int .i64 0, .slice s.a1 0 s.c1, .slice s.a2 0 s.c2] := rfl
  rw [eR]
  clear L7 S7 by7 eR
  go_wp2_with fail
  have fA := (Fr.refl [] w8).alloc (.cells #[.int .i64 1, .int .i64 1, .int .u8 3, .int .i64 7, .int .i64 0, .int .i64 0, .int .i64 0, .int .i64 0, .slice s.a1 0 s.c1, .slice s.a2 0 s.c2] 27)
  generalize w8.alloc (.cells #[.int .i64 1, .int .i64 1, .int .u8 3, .int .i64 7, .int .i64 0, .int .i64 0, .int .i64 0, .int .i64 0, .slice s.a1 0 s.c1, .slice s.a2 0 s.c2] 27) = w9 at fA ⊢
  refine (from_one w9 m d 2 5 2 1 _ _ 1 gl cl gb 35 35 (encL awR) awR (L8.kept fA (by simp)) (own0_kept (L := []) S8 fA (fun g' hg' => nomatch hg')) (by8.kept fA (by simp)) awR_len (by omega) (by omega) (by omega) awR_dec).mono ?_
  rintro e w10 ⟨ad, cc, rfl, F10⟩
  go_wp2_with fail
  go_ret
  exact ⟨rfl, (((F06.trans F7).trans F8).trans fA).trans F10⟩

end Go.Proofs.YticmjdblcomecaaGreat
