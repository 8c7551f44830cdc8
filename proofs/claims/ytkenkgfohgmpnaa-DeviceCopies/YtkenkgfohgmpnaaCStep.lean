/-
  One step, by the program and by the document: all but a write.
-/
import Derived.Test.YtkenkgfohgmpnaaCPair
namespace Go.Proofs.Ytkenkgfohgmpnaa.C
open Go.RowKit Go.Maps

set_option maxHeartbeats 2000000 in
set_option maxRecDepth 100000 in
theorem step_sync {v0 w0 w : World} {M N : List Nat} {p bs bo r : Nat} {lv : Value} {n a : Int} {dn : Bool} {S O : Tab} {E : List Ent} (P : Pair v0 M N w0 w p bs bo r lv n a dn S O E) (op block nn byte : Int) (f : Value) (hop : (Lit.int .i64 op).wf = true) (hv : op % 8 = 3) :
    Calls Try.prog 12 #[.pointer (some ⟨p, 0, none⟩), .pointer (some ⟨r, 0, none⟩), .agg #[.int .i64 op, .int .i64 block, .int .i64 nn, .int .u8 byte, f]] w fun e w' => e = .returned (.bool true) ∧ PairX v0 M N w0 w' p bs bo r n := by
  have P1 := P.keep ((Fr.refl [] w).alloc (.cells #[.int .i64 op, .int .i64 block, .int .i64 nn, .int .u8 byte, f] 30)) (by simp)
  have hv' : Hid (op % 8 = 3) := hv
  clear hv
  go_enter Try.func12, Try.ntmps12
  go_wp2_with (first
    | (go_at_call 18; refine (pick_same _ op 8 hop (by omega) (by omega)).mono ?_; rw [hv'.out]; rintro e w1 ⟨rfl, rfl⟩)
    | (go_at_call 30; refine (sync_all P1.d).mono ?_; rintro e w2 ⟨rfl, d2, f2⟩)
    | (go_at_call 37; refine (rsync_all (P1.rd f2)).mono ?_; rintro e w3 ⟨rfl, ⟨E', r3, gr, ag⟩, f3⟩))
  go_ret
  exact ⟨rfl, (P1.move d2 f2 r3 f3 (Grew.of gr) (ag _ _ P1.ag)).x⟩

set_option maxHeartbeats 2000000 in
set_option maxRecDepth 100000 in
theorem step_arm {v0 w0 w : World} {M N : List Nat} {p bs bo r : Nat} {lv : Value} {n a : Int} {dn : Bool} {S O : Tab} {E : List Ent} (P : Pair v0 M N w0 w p bs bo r lv n a dn S O E) (op block nn byte : Int) (f : Value) (hop : (Lit.int .i64 op).wf = true) (hnn : nn < 9223372036854775808) (hv : op % 8 = 4) :
    Calls Try.prog 12 #[.pointer (some ⟨p, 0, none⟩), .pointer (some ⟨r, 0, none⟩), .agg #[.int .i64 op, .int .i64 block, .int .i64 nn, .int .u8 byte, f]] w fun e w' => e = .returned (.bool true) ∧ PairX v0 M N w0 w' p bs bo r n := by
  have P1 := P.keep ((Fr.refl [] w).alloc (.cells #[.int .i64 op, .int .i64 block, .int .i64 nn, .int .u8 byte, f] 30)) (by simp)
  have hv' : Hid (op % 8 = 4) := hv
  have hq : w.heap.size ∉ [p, bs, bo] := by have := P.d.lt; simp; omega
  clear hv
  go_enter Try.func12, Try.ntmps12
  go_wp2_with (first
    | (go_at_call 18; refine (pick_same _ op 8 hop (by omega) (by omega)).mono ?_; rw [hv'.out]; rintro e w1 ⟨rfl, rfl⟩)
    | (go_at_call 29; refine (arm_all P1.d nn hnn).mono ?_; rintro e w2 ⟨rfl, d2, f2⟩; have cc := cell_of_row w2 w.heap.size 2 _ _ _ (f2.same hq (heap_alloc_new w _)))
    | (go_at_call 38; refine (rarm_all (P1.rd f2) nn hnn).mono ?_; rintro e w3 ⟨rfl, r3, f3⟩))
  go_ret
  exact ⟨rfl, (P1.move d2 f2 r3 f3 (Grew.refl _ _ _ _) P1.ag).x⟩

set_option maxHeartbeats 2000000 in
set_option maxRecDepth 100000 in
theorem step_read {v0 w0 w : World} {M N : List Nat} {p bs bo r : Nat} {lv : Value} {n a : Int} {dn : Bool} {S O : Tab} {E : List Ent} (P : Pair v0 M N w0 w p bs bo r lv n a dn S O E) (op block nn byte : Int) (f : Value) (hop : (Lit.int .i64 op).wf = true) (v : Int) (hv2 : v = 5 ∨ v = 6) (hv : op % 8 = v) :
    Calls Try.prog 12 #[.pointer (some ⟨p, 0, none⟩), .pointer (some ⟨r, 0, none⟩), .agg #[.int .i64 op, .int .i64 block, .int .i64 nn, .int .u8 byte, f]] w fun e w' => e = .returned (.bool true) ∧ PairX v0 M N w0 w' p bs bo r n := by
  have P1 := P.keep ((Fr.refl [] w).alloc (.cells #[.int .i64 op, .int .i64 block, .int .i64 nn, .int .u8 byte, f] 30)) (by simp)
  have hv' : Hid (op % 8 = v) := hv
  have hl5 : (rL n block dn S O).length ≤ 1000000 := by
    unfold rL
    split
    · rw [latest_length P.d]; omega
    · simp
  clear hv
  rcases hv2 with rfl | rfl
  all_goals
    go_enter Try.func12, Try.ntmps12
    go_wp2_with (first
      | (go_at_call 18; refine (pick_same _ op 8 hop (by omega) (by omega)).mono ?_; rw [hv'.out]; rintro e w1 ⟨rfl, rfl⟩)
      | (go_at_call 21; refine (read_all P1.d block).mono ?_; rintro e w2 ⟨ad2, c2, rfl, b2, f2⟩; have P2 := P1.keep f2 (by simp); have cc := cell_of_row w2 w.heap.size 1 _ _ _ (f2.same (by simp) (heap_alloc_new w _)))
      | (go_at_call 39; refine (rread_all P2.rr P2.ag block).mono ?_; rintro e w3 ⟨ad3, c3, rfl, b3, f3⟩; have P3 := P2.keep f3 (by simp))
      | (go_at_call 23; refine (same_any _ _ _ (rL n block dn S O) (rL n block dn S O) _ _ _ (b2.kept f3 (by simp)) b3 rfl rfl hl5).mono ?_; rw [beq_self_eq_true]; rintro e w4 ⟨rfl, f4⟩; have P4 := P3.keep f4 (by simp)))
    go_ret
    exact ⟨rfl, P4.x⟩

theorem Pair.new {v0 w0 w : World} {M N : List Nat} {p bs bo r : Nat} {lv : Value} {n a : Int} {dn : Bool} {S O : Tab} {E : List Ent} (P : Pair v0 M N w0 w p bs bo r lv n a dn S O E) {x : Nat} (hx : w.heap.size ≤ x) : x ∉ [p, bs, bo] ∧ x ∉ r :: lv.ownBlock.toList := by
  have hd := P.d.lt
  refine ⟨by simp; omega, fun h => ?_⟩
  have := P.rr.lts x (own_in h)
  omega
theorem Pair.frd {v0 w0 w w1 : World} {M N : List Nat} {p bs bo r : Nat} {lv : Value} {n a : Int} {dn : Bool} {S O : Tab} {E : List Ent} (P : Pair v0 M N w0 w p bs bo r lv n a dn S O E) (f : Fr [p, bs, bo] w w1) : Fr [] w0 w1 :=
  P.fr.then f (fun i hi h => by have := P.lo; simp at h; omega)
theorem Pair.frr {v0 w0 w w1 w2 : World} {M N : List Nat} {p bs bo r : Nat} {lv : Value} {n a : Int} {dn : Bool} {S O : Tab} {E : List Ent} (P : Pair v0 M N w0 w p bs bo r lv n a dn S O E) (f : Fr [p, bs, bo] w w1) (k : Fr (r :: lv.ownBlock.toList) w1 w2) : Fr [] w0 w2 :=
  (P.frd f).then k (fun i hi h => by have := P.rlo i (own_in h); omega)

set_option maxHeartbeats 2000000 in
set_option maxRecDepth 100000 in
theorem step_wake {v0 w0 w : World} {M N : List Nat} {p bs bo r : Nat} {lv : Value} {n a : Int} {dn : Bool} {S O : Tab} {E : List Ent} (P : Pair v0 M N w0 w p bs bo r lv n a dn S O E) (op block nn byte : Int) (fa : Option Addr) (fc : Nat) (F : Fs) (hF : FatesAt w0 fa F) (hnil : fa = none → fc = 0) (hlen : F.length ≤ 1000) (hop : (Lit.int .i64 op).wf = true) (hv : op % 8 = 7) :
    Calls Try.prog 12 #[.pointer (some ⟨p, 0, none⟩), .pointer (some ⟨r, 0, none⟩), .agg #[.int .i64 op, .int .i64 block, .int .i64 nn, .int .u8 byte, .slice fa F.length fc]] w fun e w' => e = .returned (.bool true) ∧ PairX v0 M N w0 w' p bs bo r n := by
  have P1 := P.keep ((Fr.refl [] w).alloc (.cells #[.int .i64 op, .int .i64 block, .int .i64 nn, .int .u8 byte, .slice fa F.length fc] 30)) (by simp)
  have hv' : Hid (op % 8 = 7) := hv
  have hq := P.new (Nat.le_refl _)
  have hs1 : (w.alloc (.cells #[.int .i64 op, .int .i64 block, .int .i64 nn, .int .u8 byte, .slice fa F.length fc] 30)).heap.size = w.heap.size + 1 := by simp
  have HS : Hid ((w.alloc (.cells #[.int .i64 op, .int .i64 block, .int .i64 nn, .int .u8 byte, .slice fa F.length fc] 30)).heap.size = w.heap.size + 1) := hs1
  clear hv hs1
  go_enter Try.func12, Try.ntmps12
  go_wp2_with (first
    | (go_at_call 18; refine (pick_same _ op 8 hop (by omega) (by omega)).mono ?_; rw [hv'.out]; rintro e w1 ⟨rfl, rfl⟩)
    | (go_at_call 40; refine (lentf_any _ fa _ fc F rfl hlen (hF.kept P1.fr (by simp)) hnil).mono ?_; rintro e w2 ⟨g, cap, rfl, lf, hg, f2⟩; have P2 := P1.keep f2 (by simp); rw [HS.out] at hg; have hgn := P.new (x := g) (by omega); have h2 := f2.same (by simp) (heap_alloc_new w _))
    | (go_at_call 16; refine (wake_dev P2.d F _ cap lf.fates (by omega)).mono ?_; rintro e w3 ⟨rfl, d3, f3⟩; have h3 := f3.same hq.1 h2; have cc := cell_of_row w3 w.heap.size 4 _ _ _ h3)
    | (go_at_call 17; refine (rwake_all (P2.rd f3) F fa fc (hF.kept (P2.frd f3) (by simp)) (by omega) (fun w' k => hF.kept (P2.frr f3 k) (by simp))).mono ?_; rintro e w4 ⟨rfl, ⟨E', r4, gr, ag⟩, f4⟩; have P4 := P2.move d3 f3 r4 f4 (Grew.of gr) (ag _ _ P2.ag); have cc4 := cell_of_row w4 w.heap.size 4 _ _ _ (f4.same hq.2 h3))
    | (go_at_call 41; refine (keptf_any _ g cap _ fc fa F rfl hlen ((lf.kept f3 hgn.1).kept f4 hgn.2) (hF.kept P4.fr (by simp))).mono ?_; rintro e w5 ⟨rfl, f5⟩; have P5 := P4.keep f5 (by simp)))
  go_ret
  exact ⟨rfl, P5.x⟩

end Go.Proofs.Ytkenkgfohgmpnaa.C
