/-
  Any step by both devices; like: what both tell of all blocks that are named.
-/
import Derived.Test.YtkenkgfohgmpnaaCStepW
namespace Go.Proofs.Ytkenkgfohgmpnaa.C
open Go.RowKit Go.Maps

theorem step_any {v0 w0 w : World} {M N : List Nat} {p bs bo r : Nat} {lv : Value} {n a : Int} {dn : Bool} {S O : Tab} {E : List Ent} (P : Pair v0 M N w0 w p bs bo r lv n a dn S O E) (d : DoV) (ok : DoOk w0 d) (hfl : d.fl ≤ 1000) :
    Calls Try.prog 12 #[.pointer (some ⟨p, 0, none⟩), .pointer (some ⟨r, 0, none⟩), .agg #[.int .i64 d.op, .int .i64 d.block, .int .i64 d.n, .int .u8 d.byte, .slice d.fa d.fl d.fc]] w fun e w' => e = .returned (.bool true) ∧ PairX v0 M N w0 w' p bs bo r n := by
  have k0 := Int.emod_nonneg d.op (show (8 : Int) ≠ 0 by omega)
  have k1 := Int.emod_lt_of_pos d.op (show (0 : Int) < 8 by omega)
  have hb := i64_bounds ok.n
  by_cases h3 : d.op % 8 = 3
  · exact step_sync P _ _ _ _ _ ok.op h3
  by_cases h4 : d.op % 8 = 4
  · exact step_arm P _ _ _ _ _ ok.op (by omega) h4
  by_cases h5 : d.op % 8 = 5 ∨ d.op % 8 = 6
  · exact step_read P _ _ _ _ _ ok.op _ h5 rfl
  by_cases h7 : d.op % 8 = 7
  · rw [← ok.fl]
    exact step_wake P _ _ _ _ _ _ _ ok.fates ok.nil (by rw [ok.fl]; exact hfl) ok.op h7
  · exact step_write P _ _ _ _ _ ok.op ok.n ok.b0 ok.b1 _ (by omega) rfl

set_option maxHeartbeats 2000000 in
set_option maxRecDepth 100000 in
theorem like_any {v0 w0 w : World} {M N : List Nat} {p bs bo r : Nat} {lv : Value} {n a : Int} {dn : Bool} {S O : Tab} {E : List Ent} (P : Pair v0 M N w0 w p bs bo r lv n a dn S O E) (ad : Option Addr) (c m : Nat) (L : List DoV) (hm : L.length = m) (hD : DosAt w0 ad L) (hlen : m ≤ 80) (wz : World) (fz : Fr [] wz w) :
    Calls Try.prog 15 #[.pointer (some ⟨p, 0, none⟩), .pointer (some ⟨r, 0, none⟩), .slice ad m c] w fun e w' => e = .returned (.bool true) ∧ Pair v0 M N w0 w' p bs bo r lv n a dn S O E ∧ Fr [] wz w' := by
  have hm' : (m : Int) ≤ 80 := by omega
  have HL : Hid (L.length = m) := hm
  clear hm
  go_enter Try.func15, Try.ntmps15
  go_wp2_with (first
    | (go_at_call 13; refine (down_dev P.d).mono ?_; rintro e w1 ⟨rfl, hw1⟩; obtain rfl := hw1)
    | (go_at_call 14; refine (rdown P.rr).mono ?_; rintro e w1 ⟨rfl, rfl⟩)
    | (go_at_call 26; refine (blocks_dev P.d).mono ?_; rintro e w1 ⟨rfl, hw1⟩; obtain rfl := hw1)
    | (go_at_call 43; refine (rblocks_any P.rr).mono ?_; rintro e w1 ⟨rfl, rfl⟩))
  go_loopw [7] (fun i wr => ∃ j : Nat, j ≤ m ∧ i = .int .i64 j ∧ Pair v0 M N w0 wr p bs bo r lv n a dn S O E ∧ Fr [] wz wr) (fun i _ => m - (intOf i).toNat)
  case atStart => exact ⟨0, by omega, rfl, P, fz⟩
  case round =>
    obtain ⟨j, hj, rfl, Pj, fj⟩ := hrel
    by_cases hlt : j < m
    · have hlt' : (j : Int) < (m : Int) := by omega
      have hj0 : (0 : Int) ≤ (j : Int) := by omega
      have hjl : j < L.length := by rw [HL.out]; exact hlt
      obtain ⟨ok, b, off, ha, _, c1, _⟩ := (hD.kept Pj.fr) j L[j] (List.getElem?_eq_getElem hjl)
      subst ha
      generalize L[j] = d at ok c1
      have hl5 : (rL n d.block dn S O).length ≤ 1000000 := by
        unfold rL
        split
        · rw [latest_length Pj.d]; omega
        · simp
      go_wp2_with (first
        | (go_at_call 21; refine (read_all Pj.d d.block).mono ?_; rintro e w2 ⟨ad2, c2, rfl, b2, f2⟩; have P2 := Pj.keep f2 (by simp); have cc := (World.cell?_of_block (f2.block _ (block_lt_of_cell c1) (by simp))).trans c1)
        | (go_at_call 39; refine (rread_all P2.rr P2.ag d.block).mono ?_; rintro e w3 ⟨ad3, c3, rfl, b3, f3⟩; have P3 := P2.keep f3 (by simp))
        | (go_at_call 23; refine (same_any _ _ _ (rL n d.block dn S O) (rL n d.block dn S O) _ _ _ (b2.kept f3 (by simp)) b3 rfl rfl hl5).mono ?_; rw [beq_self_eq_true]; rintro e w4 ⟨rfl, f4⟩; have P4 := P3.keep f4 (by simp)))
      exact ⟨⟨j + 1, by omega, by go_num, P4, ((fj.trans f2).trans f3).trans f4⟩, by simp [intOf]; omega⟩
    · obtain rfl : j = m := by omega
      go_wp2
      go_ret
      exact ⟨rfl, Pj, fj⟩

end Go.Proofs.Ytkenkgfohgmpnaa.C
