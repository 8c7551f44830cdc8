/-
  The walks of DeviceArmed.
-/
import Derived.Test.YtkenkgfohgmpnaaDos
namespace Go.Proofs.Ytkenkgfohgmpnaa
open Go.RowKit Go.Maps

set_option maxHeartbeats 2000000 in
set_option maxRecDepth 100000 in
theorem armed_short (w : World) (n : Int) (hn : (Lit.int .i64 n).wf = true) (ad : Option Addr) (L : List DoV) (len cap : Nat) (hlen : L.length = len) (hcap : len ≤ cap) (hsz : len ≤ 80) (hD : DosAt w ad L) :
    Calls Try.prog 8 #[.int .i64 n, .slice ad len cap] w fun e w' => e = .returned (.bool true) ∧ Fr [] w w' := by
  have hD2 : DosAt w ad L := hD
  have hlen2 : Hid ((L).length = len) := hlen
  have g0 := Int.emod_nonneg n (show (80 : Int) ≠ 0 by omega)
  have g1 := Int.emod_lt_of_pos n (show (0 : Int) < 80 by omega)
  have hsz' : (len : Int) ≤ 80 := by omega
  have hdz : decide ((80 : Int) < (len : Int)) = false := by simp; omega
  clear hlen
  go_enter Try.func8, Try.ntmps8
  go_wp2_with fail
  refine (awake_law _).mono ?_
  rintro e w1 ⟨rfl, f1⟩
  go_wp2_with fail
  refine (pick_any _ n 80 hn (by omega) (by omega)).mono ?_
  rintro e w1 ⟨rfl, rfl⟩
  generalize hm : n % 80 = m at g0 g1
  clear hm
  go_wp2_with fail
  refine (new_dev 3 _ (by omega) (by omega)).mono ?_
  rintro e w2 ⟨rfl, d2, f2⟩
  go_wp2_with fail
  refine (arm_dev d2 (1 + m) (by omega)).mono ?_
  rw [show armed (1 + m) = 1 + m from by simp [armed]; omega]
  rintro e w3 ⟨rfl, d3, f3⟩
  have f13 : Fr [] w w3 := (f1.trans f2).then f3 (fun i hi hm => by have := f1.size; simp at hm; omega)
  have hp := f1.size
  generalize w1.heap.size = B at d2 d3 f3 hp
  clear d2 f1 f2 f3
  go_wp2_with fail
  go_loopw [6] (fun i wr => ∃ j : Nat, j ≤ len ∧ i = .int .i64 j ∧ (∃ S O, Dev wr (B + 2) B (B + 1) 3 (armA (1 + m) j) (armD (1 + m) j) S O) ∧ Fr [] w wr) (fun i _ => len - (intOf i).toNat)
  case atStart =>
    have e1 : armA (1 + m) ((0 : Nat) : Int) = 1 + m := by simp [armA]; omega
    have e2 : armD (1 + m) ((0 : Nat) : Int) = false := by simp [armD]; omega
    exact ⟨0, by omega, rfl, ⟨_, _, by rw [e1, e2]; exact d3⟩, f13⟩
  case round =>
    obtain ⟨j, hj, rfl, ⟨S, O, d⟩, fr⟩ := hrel
    by_cases hlt : j < len
    · have hlt' : (j : Int) < (len : Int) := by omega
      have hj0 : (0 : Int) ≤ (j : Int) := by omega
      obtain ⟨dv, hdv⟩ : ∃ dv, L[j]? = some dv := ⟨_, List.getElem?_eq_getElem (by rw [hlen2.out]; exact hlt)⟩
      obtain ⟨ok, b, off, had, c0, c1, c2, c3, c4⟩ := (hD2.kept fr) j dv hdv
      subst had
      have hb0 : b < w.heap.size := by
        obtain ⟨_, b', off', e', q0, _⟩ := hD2 j dv hdv
        simp only [Option.some.injEq, Addr.mk.injEq] at e'
        have := block_lt_of_cell q0
        simp only [← e'.1] at this
        exact this
      clear hdv hD hD2
      have hE := @arm_e (1 + m) (j : Int)
      have hA := @arm_a (1 + m) (j : Int)
      have hDn := @arm_d (1 + m) (j : Int)
      have hbw : b < wr.heap.size := block_lt_of_cell c0
      have k0 := Int.emod_nonneg dv.block (show (3 : Int) ≠ 0 by omega)
      have k1 := Int.emod_lt_of_pos dv.block (show (0 : Int) < 3 by omega)
      have hS : ∀ w' : World, w'.heap[b]? = wr.heap[b]? → w'.cell? ⟨b, off + j * 5 + 1, none⟩ = some (.int .i64 dv.block) ∧ w'.cell? ⟨b, off + j * 5 + 3, none⟩ = some (.int .u8 dv.byte) :=
        fun w' e => ⟨(World.cell?_of_block e).trans c1, (World.cell?_of_block e).trans c3⟩
      by_cases hc : (j : Int) < 1 + m - 1
      · rw [if_pos hc] at hE
        have hdd : armD (1 + m) ((j : Int) + 1) = false := by simp [armD]; omega
        cases hop : (dv.op.tmod 2 == 0)
        · skip
          go_wp2_with fail
          go_region_held3 (fun w' => w'.cell? ⟨b, off + j * 5 + 1, none⟩ = some (.int .i64 dv.block) ∧ w'.cell? ⟨b, off + j * 5 + 3, none⟩ = some (.int .u8 dv.byte)) (first | exact hS _ rfl | exact s6 | exact s7)
            (first
              | (go_at_call 18; refine (pick_same _ dv.block 3 ok.block (by omega) (by omega)).mono ?_; rintro e w5 ⟨rfl, rfl⟩)
              | (go_at_call 28; refine (full_any _ dv.byte ok.b0 ok.b1).mono ?_; rintro e w6 ⟨rfl, b6, f6⟩
                 have s6 := hS w6 (f6.block b hbw (by simp))
                 have d6 := d.drew.kept f6 (by simp) (by simp) (by simp))
              | (go_at_call 27; refine (write_step d6 (dv.block % 3) k0 k1 _ 0 _ (fullL dv.byte) (fullL_length _) b6.src).mono ?_
                 rw [hE, hA, hDn]
                 rintro e w7 ⟨rfl, ⟨S', O', d7⟩, f7⟩
                 rw [hdd] at d7
                 have s7 := hS w7 ((f7.block b (Nat.lt_of_lt_of_le hbw f6.size) (by simp; omega)).trans (f6.block b hbw (by simp)))))
          all_goals
            have fr7 : Fr [] w w7 := (fr.drew.trans f6).then f7 (fun i hi hm => by simp at hm; omega)
            clear hE hA hDn d s6 s7 d6 b6
            go_wp2_with fail
            refine (down_dev d7).mono ?_
            rintro e w7 ⟨rfl, rfl⟩
            go_wp2_with fail
            exact ⟨⟨j + 1, by omega, by go_num, ⟨S', O', by rw [show (((j + 1 : Nat)) : Int) = (j : Int) + 1 by omega, hdd]; exact d7⟩, fr7⟩, by simp [intOf]; omega⟩
        · skip
          go_wp2_with fail
          refine (sync_step d).mono ?_
          rw [hE, hA, hDn]
          rintro e w5 ⟨rfl, ⟨S', O', d5⟩, f5⟩
          rw [hdd] at d5
          have fr5 : Fr [] w w5 := fr.then f5 (fun i hi hm => by simp at hm; omega)
          clear hE hA hDn d
          go_wp2_with fail
          refine (down_dev d5).mono ?_
          rintro e w5 ⟨rfl, rfl⟩
          go_wp2_with fail
          exact ⟨⟨j + 1, by omega, by go_num, ⟨S', O', by rw [show (((j + 1 : Nat)) : Int) = (j : Int) + 1 by omega, hdd]; exact d5⟩, fr5⟩, by simp [intOf]; omega⟩
      · rw [if_neg hc] at hE
        have hdd : armD (1 + m) ((j : Int) + 1) = true := by simp [armD]; omega
        cases hop : (dv.op.tmod 2 == 0)
        · skip
          go_wp2_with fail
          go_region_held3 (fun w' => w'.cell? ⟨b, off + j * 5 + 1, none⟩ = some (.int .i64 dv.block) ∧ w'.cell? ⟨b, off + j * 5 + 3, none⟩ = some (.int .u8 dv.byte)) (first | exact hS _ rfl | exact s6 | exact s7)
            (first
              | (go_at_call 18; refine (pick_same _ dv.block 3 ok.block (by omega) (by omega)).mono ?_; rintro e w5 ⟨rfl, rfl⟩)
              | (go_at_call 28; refine (full_any _ dv.byte ok.b0 ok.b1).mono ?_; rintro e w6 ⟨rfl, b6, f6⟩
                 have s6 := hS w6 (f6.block b hbw (by simp))
                 have d6 := d.drew.kept f6 (by simp) (by simp) (by simp))
              | (go_at_call 27; refine (write_step d6 (dv.block % 3) k0 k1 _ 0 _ (fullL dv.byte) (fullL_length _) b6.src).mono ?_
                 rw [hE, hA, hDn]
                 rintro e w7 ⟨rfl, ⟨S', O', d7⟩, f7⟩
                 rw [hdd] at d7
                 have s7 := hS w7 ((f7.block b (Nat.lt_of_lt_of_le hbw f6.size) (by simp; omega)).trans (f6.block b hbw (by simp)))))
          all_goals
            have fr7 : Fr [] w w7 := (fr.drew.trans f6).then f7 (fun i hi hm => by simp at hm; omega)
            clear hE hA hDn d s6 s7 d6 b6
            go_wp2_with fail
            refine (down_dev d7).mono ?_
            rintro e w7 ⟨rfl, rfl⟩
            go_wp2_with fail
            exact ⟨⟨j + 1, by omega, by go_num, ⟨S', O', by rw [show (((j + 1 : Nat)) : Int) = (j : Int) + 1 by omega, hdd]; exact d7⟩, fr7⟩, by simp [intOf]; omega⟩
        · skip
          go_wp2_with fail
          refine (sync_step d).mono ?_
          rw [hE, hA, hDn]
          rintro e w5 ⟨rfl, ⟨S', O', d5⟩, f5⟩
          rw [hdd] at d5
          have fr5 : Fr [] w w5 := fr.then f5 (fun i hi hm => by simp at hm; omega)
          clear hE hA hDn d
          go_wp2_with fail
          refine (down_dev d5).mono ?_
          rintro e w5 ⟨rfl, rfl⟩
          go_wp2_with fail
          exact ⟨⟨j + 1, by omega, by go_num, ⟨S', O', by rw [show (((j + 1 : Nat)) : Int) = (j : Int) + 1 by omega, hdd]; exact d5⟩, fr5⟩, by simp [intOf]; omega⟩
    · obtain rfl : j = len := by omega
      clear hD hD2
      go_wp2_with fail
      refine (wake_dev d [] none 0 (fates_nil _) (by simp)).mono ?_
      rintro e w5 ⟨rfl, d5, f5⟩
      have fr5 : Fr [] w w5 := fr.then f5 (fun i hi hm => by simp at hm; omega)
      clear d f5
      go_wp2_with fail
      refine (down_dev d5).mono ?_
      rintro e w5 ⟨rfl, rfl⟩
      go_wp2_with fail
      refine (full_any _ 1 (by omega) (by omega)).mono ?_
      rintro e w6 ⟨rfl, b6, f6⟩
      have d6 := d5.kept f6 (by simp) (by simp) (by simp)
      go_wp2_with fail
      refine (write_dev d6 0 (by omega) (by omega) _ 0 _ (fullL 1) (fullL_length 1) b6.src).mono ?_
      rw [show told (crash 0) = 0 from rfl, show left 0 = 0 from rfl, show crash 0 = false from rfl]
      rintro e w7 ⟨rfl, d7, f7⟩
      have fr7 : Fr [] w w7 := (fr5.trans f6).then f7 (fun i hi hm => by simp at hm; omega)
      clear d5 d6 b6 f6 f7
      go_wp2_with fail
      refine (sync_dev d7 rfl).mono ?_
      rw [show left 0 = 0 from rfl]
      rintro e w8 ⟨rfl, d8, f8⟩
      go_wp2_with fail
      go_ret
      exact ⟨rfl, fr7.then f8 (fun i hi hm => by simp at hm; omega)⟩

set_option maxHeartbeats 2000000 in
set_option maxRecDepth 100000 in
theorem armed_long (w : World) (n : Int) (hn : (Lit.int .i64 n).wf = true) (ad : Option Addr) (L : List DoV) (len cap : Nat) (hlen : L.length = len) (hcap : len ≤ cap) (hsz : 80 < len) (hD : DosAt w ad L) :
    Calls Try.prog 8 #[.int .i64 n, .slice ad len cap] w fun e w' => e = .returned (.bool true) ∧ Fr [] w w' := by
  have hD2 : DosAt w ad (L.take 80) := hD.take 80
  have hlen2 : Hid (((L.take 80)).length = 80) := (by rw [List.length_take, hlen]; omega : (L.take 80).length = 80)
  have g0 := Int.emod_nonneg n (show (80 : Int) ≠ 0 by omega)
  have g1 := Int.emod_lt_of_pos n (show (0 : Int) < 80 by omega)
  have hsz' : (80 : Int) < (len : Int) := by omega
  have hcap' : (80 : Int) ≤ (cap : Int) := by omega
  clear hlen
  go_enter Try.func8, Try.ntmps8
  go_wp2_with fail
  refine (awake_law _).mono ?_
  rintro e w1 ⟨rfl, f1⟩
  go_wp2_with fail
  refine (pick_any _ n 80 hn (by omega) (by omega)).mono ?_
  rintro e w1 ⟨rfl, rfl⟩
  generalize hm : n % 80 = m at g0 g1
  clear hm
  go_wp2_with fail
  refine (new_dev 3 _ (by omega) (by omega)).mono ?_
  rintro e w2 ⟨rfl, d2, f2⟩
  go_wp2_with fail
  refine (arm_dev d2 (1 + m) (by omega)).mono ?_
  rw [show armed (1 + m) = 1 + m from by simp [armed]; omega]
  rintro e w3 ⟨rfl, d3, f3⟩
  have f13 : Fr [] w w3 := (f1.trans f2).then f3 (fun i hi hm => by have := f1.size; simp at hm; omega)
  have hp := f1.size
  generalize w1.heap.size = B at d2 d3 f3 hp
  clear d2 f1 f2 f3
  go_wp2_with fail
  go_loopw [6] (fun i wr => ∃ j : Nat, j ≤ 80 ∧ i = .int .i64 j ∧ (∃ S O, Dev wr (B + 2) B (B + 1) 3 (armA (1 + m) j) (armD (1 + m) j) S O) ∧ Fr [] w wr) (fun i _ => 80 - (intOf i).toNat)
  case atStart =>
    have e1 : armA (1 + m) ((0 : Nat) : Int) = 1 + m := by simp [armA]; omega
    have e2 : armD (1 + m) ((0 : Nat) : Int) = false := by simp [armD]; omega
    exact ⟨0, by omega, rfl, ⟨_, _, by rw [e1, e2]; exact d3⟩, f13⟩
  case round =>
    obtain ⟨j, hj, rfl, ⟨S, O, d⟩, fr⟩ := hrel
    by_cases hlt : j < 80
    · have hlt' : (j : Int) < (80 : Int) := by omega
      have hj0 : (0 : Int) ≤ (j : Int) := by omega
      obtain ⟨dv, hdv⟩ : ∃ dv, (L.take 80)[j]? = some dv := ⟨_, List.getElem?_eq_getElem (by rw [hlen2.out]; exact hlt)⟩
      obtain ⟨ok, b, off, had, c0, c1, c2, c3, c4⟩ := (hD2.kept fr) j dv hdv
      subst had
      have hb0 : b < w.heap.size := by
        obtain ⟨_, b', off', e', q0, _⟩ := hD2 j dv hdv
        simp only [Option.some.injEq, Addr.mk.injEq] at e'
        have := block_lt_of_cell q0
        simp only [← e'.1] at this
        exact this
      clear hdv hD hD2
      have hE := @arm_e (1 + m) (j : Int)
      have hA := @arm_a (1 + m) (j : Int)
      have hDn := @arm_d (1 + m) (j : Int)
      have hbw : b < wr.heap.size := block_lt_of_cell c0
      have k0 := Int.emod_nonneg dv.block (show (3 : Int) ≠ 0 by omega)
      have k1 := Int.emod_lt_of_pos dv.block (show (0 : Int) < 3 by omega)
      have hS : ∀ w' : World, w'.heap[b]? = wr.heap[b]? → w'.cell? ⟨b, off + j * 5 + 1, none⟩ = some (.int .i64 dv.block) ∧ w'.cell? ⟨b, off + j * 5 + 3, none⟩ = some (.int .u8 dv.byte) :=
        fun w' e => ⟨(World.cell?_of_block e).trans c1, (World.cell?_of_block e).trans c3⟩
      by_cases hc : (j : Int) < 1 + m - 1
      · rw [if_pos hc] at hE
        have hdd : armD (1 + m) ((j : Int) + 1) = false := by simp [armD]; omega
        cases hop : (dv.op.tmod 2 == 0)
        · skip
          go_wp2_with fail
          go_region_held3 (fun w' => w'.cell? ⟨b, off + j * 5 + 1, none⟩ = some (.int .i64 dv.block) ∧ w'.cell? ⟨b, off + j * 5 + 3, none⟩ = some (.int .u8 dv.byte)) (first | exact hS _ rfl | exact s6 | exact s7)
            (first
              | (go_at_call 18; refine (pick_same _ dv.block 3 ok.block (by omega) (by omega)).mono ?_; rintro e w5 ⟨rfl, rfl⟩)
              | (go_at_call 28; refine (full_any _ dv.byte ok.b0 ok.b1).mono ?_; rintro e w6 ⟨rfl, b6, f6⟩
                 have s6 := hS w6 (f6.block b hbw (by simp))
                 have d6 := d.drew.kept f6 (by simp) (by simp) (by simp))
              | (go_at_call 27; refine (write_step d6 (dv.block % 3) k0 k1 _ 0 _ (fullL dv.byte) (fullL_length _) b6.src).mono ?_
                 rw [hE, hA, hDn]
                 rintro e w7 ⟨rfl, ⟨S', O', d7⟩, f7⟩
                 rw [hdd] at d7
                 have s7 := hS w7 ((f7.block b (Nat.lt_of_lt_of_le hbw f6.size) (by simp; omega)).trans (f6.block b hbw (by simp)))))
          all_goals
            have fr7 : Fr [] w w7 := (fr.drew.trans f6).then f7 (fun i hi hm => by simp at hm; omega)
            clear hE hA hDn d s6 s7 d6 b6
            go_wp2_with fail
            refine (down_dev d7).mono ?_
            rintro e w7 ⟨rfl, rfl⟩
            go_wp2_with fail
            exact ⟨⟨j + 1, by omega, by go_num, ⟨S', O', by rw [show (((j + 1 : Nat)) : Int) = (j : Int) + 1 by omega, hdd]; exact d7⟩, fr7⟩, by simp [intOf]; omega⟩
        · skip
          go_wp2_with fail
          refine (sync_step d).mono ?_
          rw [hE, hA, hDn]
          rintro e w5 ⟨rfl, ⟨S', O', d5⟩, f5⟩
          rw [hdd] at d5
          have fr5 : Fr [] w w5 := fr.then f5 (fun i hi hm => by simp at hm; omega)
          clear hE hA hDn d
          go_wp2_with fail
          refine (down_dev d5).mono ?_
          rintro e w5 ⟨rfl, rfl⟩
          go_wp2_with fail
          exact ⟨⟨j + 1, by omega, by go_num, ⟨S', O', by rw [show (((j + 1 : Nat)) : Int) = (j : Int) + 1 by omega, hdd]; exact d5⟩, fr5⟩, by simp [intOf]; omega⟩
      · rw [if_neg hc] at hE
        have hdd : armD (1 + m) ((j : Int) + 1) = true := by simp [armD]; omega
        cases hop : (dv.op.tmod 2 == 0)
        · skip
          go_wp2_with fail
          go_region_held3 (fun w' => w'.cell? ⟨b, off + j * 5 + 1, none⟩ = some (.int .i64 dv.block) ∧ w'.cell? ⟨b, off + j * 5 + 3, none⟩ = some (.int .u8 dv.byte)) (first | exact hS _ rfl | exact s6 | exact s7)
            (first
              | (go_at_call 18; refine (pick_same _ dv.block 3 ok.block (by omega) (by omega)).mono ?_; rintro e w5 ⟨rfl, rfl⟩)
              | (go_at_call 28; refine (full_any _ dv.byte ok.b0 ok.b1).mono ?_; rintro e w6 ⟨rfl, b6, f6⟩
                 have s6 := hS w6 (f6.block b hbw (by simp))
                 have d6 := d.drew.kept f6 (by simp) (by simp) (by simp))
              | (go_at_call 27; refine (write_step d6 (dv.block % 3) k0 k1 _ 0 _ (fullL dv.byte) (fullL_length _) b6.src).mono ?_
                 rw [hE, hA, hDn]
                 rintro e w7 ⟨rfl, ⟨S', O', d7⟩, f7⟩
                 rw [hdd] at d7
                 have s7 := hS w7 ((f7.block b (Nat.lt_of_lt_of_le hbw f6.size) (by simp; omega)).trans (f6.block b hbw (by simp)))))
          all_goals
            have fr7 : Fr [] w w7 := (fr.drew.trans f6).then f7 (fun i hi hm => by simp at hm; omega)
            clear hE hA hDn d s6 s7 d6 b6
            go_wp2_with fail
            refine (down_dev d7).mono ?_
            rintro e w7 ⟨rfl, rfl⟩
            go_wp2_with fail
            exact ⟨⟨j + 1, by omega, by go_num, ⟨S', O', by rw [show (((j + 1 : Nat)) : Int) = (j : Int) + 1 by omega, hdd]; exact d7⟩, fr7⟩, by simp [intOf]; omega⟩
        · skip
          go_wp2_with fail
          refine (sync_step d).mono ?_
          rw [hE, hA, hDn]
          rintro e w5 ⟨rfl, ⟨S', O', d5⟩, f5⟩
          rw [hdd] at d5
          have fr5 : Fr [] w w5 := fr.then f5 (fun i hi hm => by simp at hm; omega)
          clear hE hA hDn d
          go_wp2_with fail
          refine (down_dev d5).mono ?_
          rintro e w5 ⟨rfl, rfl⟩
          go_wp2_with fail
          exact ⟨⟨j + 1, by omega, by go_num, ⟨S', O', by rw [show (((j + 1 : Nat)) : Int) = (j : Int) + 1 by omega, hdd]; exact d5⟩, fr5⟩, by simp [intOf]; omega⟩
    · obtain rfl : j = 80 := by omega
      clear hD hD2
      go_wp2_with fail
      refine (wake_dev d [] none 0 (fates_nil _) (by simp)).mono ?_
      rintro e w5 ⟨rfl, d5, f5⟩
      have fr5 : Fr [] w w5 := fr.then f5 (fun i hi hm => by simp at hm; omega)
      clear d f5
      go_wp2_with fail
      refine (down_dev d5).mono ?_
      rintro e w5 ⟨rfl, rfl⟩
      go_wp2_with fail
      refine (full_any _ 1 (by omega) (by omega)).mono ?_
      rintro e w6 ⟨rfl, b6, f6⟩
      have d6 := d5.kept f6 (by simp) (by simp) (by simp)
      go_wp2_with fail
      refine (write_dev d6 0 (by omega) (by omega) _ 0 _ (fullL 1) (fullL_length 1) b6.src).mono ?_
      rw [show told (crash 0) = 0 from rfl, show left 0 = 0 from rfl, show crash 0 = false from rfl]
      rintro e w7 ⟨rfl, d7, f7⟩
      have fr7 : Fr [] w w7 := (fr5.trans f6).then f7 (fun i hi hm => by simp at hm; omega)
      clear d5 d6 b6 f6 f7
      go_wp2_with fail
      refine (sync_dev d7 rfl).mono ?_
      rw [show left 0 = 0 from rfl]
      rintro e w8 ⟨rfl, d8, f8⟩
      go_wp2_with fail
      go_ret
      exact ⟨rfl, fr7.then f8 (fun i hi hm => by simp at hm; omega)⟩

end Go.Proofs.Ytkenkgfohgmpnaa
