/-
  A book without a space.
-/
import Derived.Test.YtopaeomjndblkaaGreatY49Z
namespace Go.Proofs.YtopaeomjndblkaaGreat
open Go.RowKit Go.Maps

section
variable {w0 w : World} {bp : Nat} {b : Bk} {K : List (Nat × Obj)} (h : Ab w0 w bp b K)
include h
theorem sfree_not {V : Pages} (hv : Shows b.x V) (hp : 3 ≤ b.x.pages) (hp2 : b.x.pages ≤ 65536) (hd : ¬ IsHd b.x.pages (V 0)) :
    Calls Tryz.prog 61 #[.pointer (some ⟨bp, 0, none⟩)] w fun e w' => ∃ b', e = .returned (.tuple #[.int .i64 0, .int .i64 4]) ∧ Hid (Rd w0 w' bp K b b') := by
  have HX := rd_headNo h hv (by omega) (by omega) hd
  clear h hv
  go_enter Tryz.func61, Tryz.ntmps61
  go_wp2_with (go_at_call 151; refine HX.mono ?_; rintro e w1 ⟨b1, rfl, P⟩)
  go_ret2
  exact ⟨b1, rfl, P⟩
theorem stake_not {V : Pages} (hv : Shows b.x V) (hp : 3 ≤ b.x.pages) (hp2 : b.x.pages ≤ 65536) (hs : b.t.st = 1) (hd : ¬ IsHd b.x.pages (V 0)) :
    Calls Tryz.prog 62 #[.pointer (some ⟨bp, 0, none⟩)] w fun e w' => ∃ b', e = .returned (.tuple #[.int .i64 0, .int .i64 4]) ∧ Hid (Rd w0 w' bp K b b') := by
  have WX := swithin_in h (by omega) hs
  have HX := rd_headNo h hv (by omega) (by omega) hd
  clear h hv
  go_enter Tryz.func62, Tryz.ntmps62
  go_wp2_with (first
    | (go_at_call 154; refine WX.mono ?_; rintro e wz ⟨rfl, hz⟩; rw [hz]; clear hz)
    | (go_at_call 151; refine HX.mono ?_; rintro e w1 ⟨b1, rfl, P⟩))
  go_ret2
  exact ⟨b1, rfl, P⟩
theorem sgive_not {V : Pages} (hv : Shows b.x V) (hp : 3 ≤ b.x.pages) (hp2 : b.x.pages ≤ 65536) (hs : b.t.st = 1) (hd : ¬ IsHd b.x.pages (V 0)) (k : Int) :
    Calls Tryz.prog 63 #[.pointer (some ⟨bp, 0, none⟩), .int .i64 k] w fun e w' => ∃ b', e = .returned (.int .i64 4) ∧ Hid (Rd w0 w' bp K b b') := by
  have WX := swithin_in h (by omega) hs
  have HX := rd_takenNo h hv (by omega) (by omega) hd k
  clear h hv
  go_enter Tryz.func63, Tryz.ntmps63
  go_wp2_with (first
    | (go_at_call 154; refine WX.mono ?_; rintro e wz ⟨rfl, hz⟩; rw [hz]; clear hz)
    | (go_at_call 147; refine HX.mono ?_; rintro e w1 ⟨b1, rfl, P⟩))
  go_ret
  exact ⟨b1, rfl, P⟩
theorem ssetRoot_not {V : Pages} (hv : Shows b.x V) (hp : 3 ≤ b.x.pages) (hp2 : b.x.pages ≤ 65536) (hs : b.t.st = 1) (hd : ¬ IsHd b.x.pages (V 0)) (k n : Nat) (hk : k < 8) (hn : n < b.x.pages) :
    Calls Tryz.prog 64 #[.pointer (some ⟨bp, 0, none⟩), .int .i64 (k : Int), .int .i64 (n : Int)] w fun e w' => ∃ b', e = .returned (.int .i64 4) ∧ Hid (Rd w0 w' bp K b b') := by
  have WX := swithin_in h (by omega) hs
  have HQ := ab_pages h
  have HX := rd_headNo h hv (by omega) (by omega) hd
  have k0 : (0 : Int) ≤ (k : Int) := by omega
  have k1 : (k : Int) < 8 := by omega
  have n0 : (0 : Int) ≤ (n : Int) := by omega
  have n1 : (n : Int) < (b.x.pages : Int) := by omega
  clear h hv
  go_enter Tryz.func64, Tryz.ntmps64
  go_wp2_with (first
    | (go_at_call 154; refine WX.mono ?_; rintro e wz ⟨rfl, hz⟩; rw [hz]; clear hz)
    | (go_at_call 24; refine HQ.mono ?_; rintro e wz ⟨rfl, hz⟩; rw [hz]; clear hz)
    | (go_at_call 151; refine HX.mono ?_; rintro e w1 ⟨b1, rfl, P⟩))
  go_ret
  exact ⟨b1, rfl, P⟩
theorem sformat_out (hp : 0 < b.x.pages) (hs : b.t.st = 0) : Calls Tryz.prog 67 #[.pointer (some ⟨bp, 0, none⟩)] w fun e w' => e = .returned (.int .i64 7) ∧ w' = w := by
  have WX := swithin_out h hp hs
  clear h
  go_enter Tryz.func67, Tryz.ntmps67
  go_wp2_with (go_at_call 154; refine WX.mono ?_; rintro e wz ⟨rfl, hz⟩; rw [hz]; clear hz)
  go_ret
  exact ⟨rfl, rfl⟩
end
theorem zs_notHd (n : Nat) : ¬ IsHd n (zs 512) := fun h => by
  have h1 := h.byte (i := 0) (by omega) (Or.inl (by omega))
  rw [zs_byte] at h1
  unfold hd0 at h1
  rw [putAt_far (by simp [zs_length]) (Or.inl (by omega))] at h1
  exact absurd h1 (by decide)
end Go.Proofs.YtopaeomjndblkaaGreat

