/-
  A root is set.
-/
import Derived.Test.YtopaeomjndblkaaGreatY44Z
namespace Go.Proofs.YtopaeomjndblkaaGreat
open Go.RowKit Go.Maps

/-- Is a page's bit set? -/
def MkB (V : Pages) (k : Nat) : Bool := (byteAt (V (1 + k / 4096)) (k % 4096 / 8)).toNat.testBit (k % 8)
theorem and_all : ∀ x : Fin 256, ∀ q : Fin 8, (bits .and .u8 ((x.val : Nat) : Int) (2 ^ q.val) != 0) = x.val.testBit q.val := by decide +kernel
theorem and_bit (x : UInt8) (q : Nat) (hq : q < 8) : (bits .and .u8 (x.toNat : Int) (2 ^ q) != 0) = x.toNat.testBit q := and_all ⟨x.toNat, x.toNat_lt⟩ ⟨q, hq⟩
section
variable {w0 w : World} {bp : Nat} {b : Bk} {K : List (Nat × Obj)} (h : Ab w0 w bp b K)
include h
set_option maxHeartbeats 1000000 in
set_option maxRecDepth 100000 in
theorem smarked_any {V : Pages} (hv : Shows b.x V) (k : Nat) (hk : 1 + k / 4096 < b.x.pages) (hk2 : k ≤ 1000000) (hl : (V (1 + k / 4096)).length = 512) :
    Calls Tryz.prog 217 #[.pointer (some ⟨bp, 0, none⟩), .int .i64 (k : Int)] w fun e w' => ∃ b', e = .returned (.tuple #[.bool (MkB V k), .int .i64 0]) ∧ Hid (∃ g w1, Fr [] w w1 ∧ Ab w0 w' bp b' K ∧ PgTo w1 w' b (V (1 + k / 4096)) g b') := by
  have LX := splace_any w k hk2
  have b2 : k % 4096 / 8 < 512 := by omega
  have b3 : k % 8 < 8 := by omega
  unfold MkB
  generalize 1 + k / 4096 = q0 at *
  generalize k % 4096 / 8 = q1 at *
  generalize k % 8 = q2 at *
  have hq1 : (q1 : Int) < 512 := by omega
  have H := hidI h
  clear h
  go_enter Tryz.func217, Tryz.ntmps217
  go_wp2_with (first | (go_at_call 219; refine LX.mono ?_; rintro e w1 ⟨rfl, f1⟩; have PX := ab_page (H.out.quiet f1) hv hk) | (go_at_call 28; refine PX.mono ?_; rintro e w2 ⟨g, b', rfl, P⟩; have c0 := P.out.2.blk.cell q1 (by rw [hl]; omega)))
  go_ret2
  refine ⟨b', ?_, hidI ⟨g, w1, f1, P.out⟩⟩
  rw [← and_bit (byteAt (V q0) q1) q2 b3]
  rfl
set_option maxHeartbeats 1000000 in
set_option maxRecDepth 100000 in
theorem sroot_yes {V : Pages} (hv : Shows b.x V) (hp : 0 < b.x.pages) (hp2 : b.x.pages ≤ 1000000) (hl : (V 0).length = 512) (hd : IsHd b.x.pages (V 0)) (k : Nat) (hk : k < 8) :
    Calls Tryz.prog 65 #[.pointer (some ⟨bp, 0, none⟩), .int .i64 (k : Int)] w fun e w' => ∃ b', e = .returned (.tuple #[.int .i64 (numAt (V 0) (8 + 4 * k) : Int), .int .i64 0]) ∧ Hid (∃ g w1, Ab w0 w' bp b' K ∧ PgTo w w1 b (V 0) g b' ∧ Fr [] w1 w') := by
  have MX := smade_any h hp
  have HX := shead_yes h hv hp hp2 hl hd
  clear h
  have k0 : (0 : Int) ≤ (k : Int) := by omega
  have k1 : (k : Int) < 8 := by omega
  have d0 : decide ((k : Int) < 0) = false := by simp
  go_enter Tryz.func65, Tryz.ntmps65
  go_wp2_with (first | (go_at_call 162; refine MX.mono ?_; rintro e wz ⟨rfl, hz⟩; rw [hz]; clear hz) | (go_at_call 151; refine HX.mono ?_; rintro e w1 ⟨g, b', rfl, P⟩; have NX := snumber_any w1 g 512 (V 0) hl P.out.2.1 (by omega) (by omega) (8 + 4 * k) (by omega)) | (go_at_call 161; refine (srootAt_any w1 k hk).mono ?_; rintro e wz ⟨rfl, hz⟩; rw [hz]; clear hz) | (go_at_call 163; refine NX.mono ?_; rintro e wz ⟨rfl, hz⟩; rw [hz]; clear hz))
  go_ret2
  obtain ⟨A, _, w2, Q, f2⟩ := P.out
  exact ⟨b', rfl, hidI ⟨g, w2, A, Q, f2⟩⟩
theorem sroot_arg (hp : 0 < b.x.pages) (k : Int) (hk : k < 0 ∨ 8 ≤ k) :
    Calls Tryz.prog 65 #[.pointer (some ⟨bp, 0, none⟩), .int .i64 k] w fun e w' => e = .returned (.tuple #[.int .i64 0, .int .i64 2]) ∧ w' = w := by
  have MX := smade_any h hp
  clear h
  rcases hk with hk | hk
  · go_enter Tryz.func65, Tryz.ntmps65
    go_wp2_with (go_at_call 162; refine MX.mono ?_; rintro e wz ⟨rfl, hz⟩; rw [hz]; clear hz)
    go_ret2
    exact ⟨rfl, rfl⟩
  · have k0 : (0 : Int) ≤ k := by omega
    go_enter Tryz.func65, Tryz.ntmps65
    go_wp2_with (go_at_call 162; refine MX.mono ?_; rintro e wz ⟨rfl, hz⟩; rw [hz]; clear hz)
    go_ret2
    exact ⟨rfl, rfl⟩
end
end Go.Proofs.YtopaeomjndblkaaGreat

namespace Go.Proofs.YtopaeomjndblkaaGreat
open Go.RowKit Go.Maps

section
variable {w0 w : World} {bp : Nat} {b : Bk} {K : List (Nat × Obj)} (h : Ab w0 w bp b K)
include h
set_option maxHeartbeats 1000000 in
set_option maxRecDepth 100000 in
/-- Taken of what is a page. -/
theorem staken_in {V : Pages} (hv : Shows b.x V) (hp : 3 ≤ b.x.pages) (hp2 : b.x.pages ≤ 1000000) (hl : ∀ q, q < b.x.pages → (V q).length = 512) (hd : IsHd b.x.pages (V 0)) (hsh : ∀ w1 g b', PgTo w w1 b (V 0) g b' → Shows b'.x V) (k : Nat) (hk : k < b.x.pages) :
    Calls Tryz.prog 147 #[.pointer (some ⟨bp, 0, none⟩), .int .i64 (k : Int)] w fun e w' => ∃ b'', e = .returned (.tuple #[.bool (MkB V k), .int .i64 0]) ∧ Hid (∃ g w1 b' w2 g2 w3, Ab w0 w' bp b'' K ∧ PgTo w w1 b (V 0) g b' ∧ Fr [] w1 w2 ∧ Fr [] w2 w3 ∧ PgTo w3 w' b' (V (1 + k / 4096)) g2 b'') := by
  have HX := shead_yes h hv (by omega) hp2 (hl 0 (by omega)) hd
  clear h
  have k0 : (0 : Int) ≤ (k : Int) := by omega
  have k1 : (k : Int) < (b.x.pages : Int) := by omega
  go_enter Tryz.func147, Tryz.ntmps147
  go_wp2_with (first | (go_at_call 151; refine HX.mono ?_; rintro e w2 ⟨g, b', rfl, P⟩; have ep : b'.x.pages = b.x.pages := (by obtain ⟨_, _, w1, Q, _⟩ := P.out; exact Q.tr.pages); have HQ := ab_pages P.out.1; rw [ep] at HQ; have MX := smarked_any P.out.1 (V := V) (by obtain ⟨_, _, w1, Q, _⟩ := P.out; exact hsh _ _ _ Q) k (by rw [ep]; omega) (by omega) (hl _ (by omega))) | (go_at_call 24; refine HQ.mono ?_; rintro e wz ⟨rfl, hz⟩; rw [hz]; clear hz) | (go_at_call 217; refine MX.mono ?_; rintro e w4 ⟨b'', rfl, P4⟩))
  go_ret2
  refine ⟨b'', rfl, hidI ?_⟩
  obtain ⟨A, _, w1, Q, f2⟩ := P.out
  obtain ⟨g2, w3, f3, A4, Q4⟩ := P4.out
  exact ⟨g, w1, b', w2, g2, w3, A4, Q, f2, f3, Q4⟩
set_option maxHeartbeats 1000000 in
set_option maxRecDepth 100000 in
/-- Taken of what is none. -/
theorem staken_out {V : Pages} (hv : Shows b.x V) (hp : 3 ≤ b.x.pages) (hp2 : b.x.pages ≤ 1000000) (hl : (V 0).length = 512) (hd : IsHd b.x.pages (V 0)) (k : Int) (hk : k < 0 ∨ (b.x.pages : Int) ≤ k) :
    Calls Tryz.prog 147 #[.pointer (some ⟨bp, 0, none⟩), .int .i64 k] w fun e w' => ∃ b', e = .returned (.tuple #[.bool false, .int .i64 0]) ∧ Hid (∃ g w1, Ab w0 w' bp b' K ∧ PgTo w w1 b (V 0) g b' ∧ Fr [] w1 w') := by
  have HX := shead_yes h hv (by omega) hp2 hl hd
  clear h
  rcases hk with hk | hk
  · go_enter Tryz.func147, Tryz.ntmps147
    go_wp2_with (go_at_call 151; refine HX.mono ?_; rintro e w2 ⟨g, b', rfl, P⟩)
    go_ret2
    obtain ⟨A, _, w1, Q, f2⟩ := P.out
    exact ⟨b', rfl, hidI ⟨g, w1, A, Q, f2⟩⟩
  · have k0 : (0 : Int) ≤ k := by omega
    go_enter Tryz.func147, Tryz.ntmps147
    go_wp2_with (first | (go_at_call 151; refine HX.mono ?_; rintro e w2 ⟨g, b', rfl, P⟩; have ep : b'.x.pages = b.x.pages := (by obtain ⟨_, _, w1, Q, _⟩ := P.out; exact Q.tr.pages); have HQ := ab_pages P.out.1; rw [ep] at HQ) | (go_at_call 24; refine HQ.mono ?_; rintro e wz ⟨rfl, hz⟩; rw [hz]; clear hz))
    go_ret2
    obtain ⟨A, _, w1, Q, f2⟩ := P.out
    exact ⟨b', rfl, hidI ⟨g, w1, A, Q, f2⟩⟩
/-- Taken of a book without a space. -/
theorem staken_not {V : Pages} (hv : Shows b.x V) (hp : 0 < b.x.pages) (hp2 : b.x.pages ≤ 1000000) (hl : (V 0).length = 512) (hd : ¬ IsHd b.x.pages (V 0)) (k : Int) :
    Calls Tryz.prog 147 #[.pointer (some ⟨bp, 0, none⟩), .int .i64 k] w fun e w' => ∃ b', e = .returned (.tuple #[.bool false, .int .i64 4]) ∧ Hid (Ab w0 w' bp b' K ∧ ∃ g w1, PgTo w w1 b (V 0) g b' ∧ Fr [] w1 w') := by
  have HX := shead_not h hv hp hp2 hl hd
  clear h
  go_enter Tryz.func147, Tryz.ntmps147
  go_wp2_with (go_at_call 151; refine HX.mono ?_; rintro e w2 ⟨b', rfl, P⟩)
  go_ret2
  exact ⟨b', rfl, P⟩
end
end Go.Proofs.YtopaeomjndblkaaGreat

namespace Go.Proofs.YtopaeomjndblkaaGreat
open Go.RowKit Go.Maps
open Pg (SpE diffS)

def setB (x : UInt8) (q : Nat) : UInt8 := UInt8.ofNat (x.toNat ||| 2 ^ q)
def clrB (x : UInt8) (q : Nat) : UInt8 := UInt8.ofNat (x.toNat - (x.toNat &&& 2 ^ q))
theorem or_all : ∀ x : Fin 256, ∀ q : Fin 8, bits .or .u8 ((x.val : Nat) : Int) ((2 ^ q.val : Nat) : Int) = ((x.val ||| 2 ^ q.val) % 256 : Nat) := by decide +kernel
theorem andNot_all : ∀ x : Fin 256, ∀ q : Fin 8, bits .andNot .u8 ((x.val : Nat) : Int) ((2 ^ q.val : Nat) : Int) = ((x.val - (x.val &&& 2 ^ q.val)) % 256 : Nat) := by decide +kernel
theorem setB_int (x : UInt8) (q : Nat) (hq : q < 8) : bits .or .u8 (x.toNat : Int) ((2 ^ q : Nat) : Int) = ((setB x q).toNat : Int) := by
  rw [or_all ⟨x.toNat, x.toNat_lt⟩ ⟨q, hq⟩]
  simp only [setB, UInt8.toNat_ofNat']
theorem clrB_int (x : UInt8) (q : Nat) (hq : q < 8) : bits .andNot .u8 (x.toNat : Int) ((2 ^ q : Nat) : Int) = ((clrB x q).toNat : Int) := by
  rw [andNot_all ⟨x.toNat, x.toNat_lt⟩ ⟨q, hq⟩]
  simp only [clrB, UInt8.toNat_ofNat']
theorem stake1 (w : World) (x y : Int) : Calls Tryz.prog 157 #[.int .u8 x, .int .u8 y] w fun e w' => e = .returned (.int .u8 (bits .or .u8 x y)) ∧ w' = w := by
  go_enter Tryz.func157, Tryz.ntmps157
  go_wp2
  go_ret
  exact ⟨rfl, rfl⟩
set_option maxHeartbeats 2000000 in
set_option maxRecDepth 100000 in
theorem sremap_take {w0 w : World} {bp : Nat} {b : Bk} {K : List (Nat × Obj)} (h : Ab w0 w bp b K) {nb : Nat} {m : Mst} (en : Env b nb m) {H : List Ch} {V : Pages} (tx : InTx b H V) (hE : b.x.y.E ≤ 390000) (k : Nat) (hk : 1 + k / 4096 < b.x.pages) (hk2 : k ≤ 1000000) (hl : (V (1 + k / 4096)).length = 512) :
    Calls Tryz.prog 156 #[.pointer (some ⟨bp, 0, none⟩), .int .i64 (k : Int), .func (.func 157) #[] #[]] w fun e w' => ∃ r : Int, e = .returned (.int .i64 r) ∧ Hid (∃ g b' w1 w2 w3, Fr [] w w1 ∧ PgTo w1 w2 b (V (1 + k / 4096)) g b' ∧ Fr [g] w2 w3 ∧ Ab w0 w3 bp b' K ∧ ∃ S : List SpE, S.map (fun e => (e.off, e.off + e.n)) = diffS (V (1 + k / 4096)) ((V (1 + k / 4096)).set (k % 4096 / 8) (setB (byteAt (V (1 + k / 4096)) (k % 4096 / 8)) (k % 8))) ∧ ((r = 5 ∧ b'.room < keptOf H + 35 + sumN S ∧ ∃ b'', Ab w0 w' bp b'' K ∧ PutNo w3 w' b' H V b'') ∨ (r = 0 ∧ keptOf H + 35 + sumN S ≤ b'.room ∧ ∃ b'' H', Ab w0 w' bp b'' K ∧ PutOk w3 w' b' H V (1 + k / 4096) ((V (1 + k / 4096)).set (k % 4096 / 8) (setB (byteAt (V (1 + k / 4096)) (k % 4096 / 8)) (k % 8))) S b'' H'))) := by
  have LX := splace_any w k hk2
  have b2 : k % 4096 / 8 < 512 := by omega
  have b3 : k % 8 < 8 := by omega
  generalize 1 + k / 4096 = q0 at *
  generalize k % 4096 / 8 = q1 at *
  generalize k % 8 = q2 at *
  have hq1 : (q1 : Int) < 512 := by omega
  have HB := hidI (setB_int (byteAt (V q0) q1) q2 b3)
  obtain ⟨y, HY⟩ : ∃ y : Int, Hid (((2 ^ q2 : Nat) : Int) = y) := ⟨_, hidI rfl⟩
  rw [HY.out] at LX HB
  have HH := hidI h
  have EN := hidI en
  have TX := hidI tx
  clear h en tx
  go_enter Tryz.func156, Tryz.ntmps156
  go_wp2_with (first
    | (go_at_call 219; refine LX.mono ?_; rintro e w1 ⟨rfl, f1⟩; have PX := ab_page (HH.out.quiet f1) TX.out.sh hk)
    | (go_at_call 28; refine PX.mono ?_; rintro e w2 ⟨g, b', rfl, P⟩; have c0 := P.out.2.blk.cell q1 (by rw [hl]; omega); have c1 := P.out.2.blk.frozen q1)
    | (go_at_call 157; refine (stake1 _ _ _).mono ?_; rintro e wz ⟨rfl, hz⟩; rw [hz]; clear hz))
  have f3 : Fr [g] w2 (w2.setCell ⟨g, q1, none⟩ (.int .u8 ((setB (byteAt (V q0) q1) q2).toNat : Int))) := fr_set w2 g q1 _
  have B3 : Blk (w2.setCell ⟨g, q1, none⟩ (.int .u8 ((setB (byteAt (V q0) q1) q2).toNat : Int))) g ((V q0).set q1 (setB (byteAt (V q0) q1) q2)) := P.out.2.blk.set q1 _
  have A1 := HH.out.quiet f1
  have s1 := P.out.2.new
  have A3 := P.out.1.blk P.out.2.blk f3 P.out.2.out (by have := A1.fr.size; omega) (fun p hp e => by
    have h1 := (A1.kp p hp).1
    have h2 := (Array.getElem?_eq_some_iff.1 h1).1
    omega)
  have PX2 := ab_put A3 (EN.out.tr P.out.2.tr) (P.out.2.tx _ _ TX.out) (page := q0) (by rw [P.out.2.tr.pages]; exact hk) (g := g) (c := 512) (by rw [List.length_set]; exact hl) (Nat.le_refl _) B3.bytes P.out.2.out (by rw [P.out.2.E]; exact hE)
  rw [← HB.out] at PX2 f3 A3
  have F3 := hidI f3
  have HA3 := hidI A3
  clear f3 A3 B3 A1
  refine PX2.mono ?_
  rintro e w4 ⟨r, rfl, P4⟩
  go_wp2_with fail
  go_ret
  refine ⟨r, rfl, hidI ?_⟩
  exact ⟨g, b', w1, w2, _, f1, P.out.2, F3.out, HA3.out, P4.out⟩
theorem sgive1 (w : World) (x y : Int) : Calls Tryz.prog 159 #[.int .u8 x, .int .u8 y] w fun e w' => e = .returned (.int .u8 (bits .andNot .u8 x y)) ∧ w' = w := by
  go_enter Tryz.func159, Tryz.ntmps159
  go_wp2
  go_ret
  exact ⟨rfl, rfl⟩
set_option maxHeartbeats 2000000 in
set_option maxRecDepth 100000 in
theorem sremap_give {w0 w : World} {bp : Nat} {b : Bk} {K : List (Nat × Obj)} (h : Ab w0 w bp b K) {nb : Nat} {m : Mst} (en : Env b nb m) {H : List Ch} {V : Pages} (tx : InTx b H V) (hE : b.x.y.E ≤ 390000) (k : Nat) (hk : 1 + k / 4096 < b.x.pages) (hk2 : k ≤ 1000000) (hl : (V (1 + k / 4096)).length = 512) :
    Calls Tryz.prog 156 #[.pointer (some ⟨bp, 0, none⟩), .int .i64 (k : Int), .func (.func 159) #[] #[]] w fun e w' => ∃ r : Int, e = .returned (.int .i64 r) ∧ Hid (∃ g b' w1 w2 w3, Fr [] w w1 ∧ PgTo w1 w2 b (V (1 + k / 4096)) g b' ∧ Fr [g] w2 w3 ∧ Ab w0 w3 bp b' K ∧ ∃ S : List SpE, S.map (fun e => (e.off, e.off + e.n)) = diffS (V (1 + k / 4096)) ((V (1 + k / 4096)).set (k % 4096 / 8) (clrB (byteAt (V (1 + k / 4096)) (k % 4096 / 8)) (k % 8))) ∧ ((r = 5 ∧ b'.room < keptOf H + 35 + sumN S ∧ ∃ b'', Ab w0 w' bp b'' K ∧ PutNo w3 w' b' H V b'') ∨ (r = 0 ∧ keptOf H + 35 + sumN S ≤ b'.room ∧ ∃ b'' H', Ab w0 w' bp b'' K ∧ PutOk w3 w' b' H V (1 + k / 4096) ((V (1 + k / 4096)).set (k % 4096 / 8) (clrB (byteAt (V (1 + k / 4096)) (k % 4096 / 8)) (k % 8))) S b'' H'))) := by
  have LX := splace_any w k hk2
  have b2 : k % 4096 / 8 < 512 := by omega
  have b3 : k % 8 < 8 := by omega
  generalize 1 + k / 4096 = q0 at *
  generalize k % 4096 / 8 = q1 at *
  generalize k % 8 = q2 at *
  have hq1 : (q1 : Int) < 512 := by omega
  have HB := hidI (clrB_int (byteAt (V q0) q1) q2 b3)
  obtain ⟨y, HY⟩ : ∃ y : Int, Hid (((2 ^ q2 : Nat) : Int) = y) := ⟨_, hidI rfl⟩
  rw [HY.out] at LX HB
  have HH := hidI h
  have EN := hidI en
  have TX := hidI tx
  clear h en tx
  go_enter Tryz.func156, Tryz.ntmps156
  go_wp2_with (first
    | (go_at_call 219; refine LX.mono ?_; rintro e w1 ⟨rfl, f1⟩; have PX := ab_page (HH.out.quiet f1) TX.out.sh hk)
    | (go_at_call 28; refine PX.mono ?_; rintro e w2 ⟨g, b', rfl, P⟩; have c0 := P.out.2.blk.cell q1 (by rw [hl]; omega); have c1 := P.out.2.blk.frozen q1)
    | (go_at_call 159; refine (sgive1 _ _ _).mono ?_; rintro e wz ⟨rfl, hz⟩; rw [hz]; clear hz))
  have f3 : Fr [g] w2 (w2.setCell ⟨g, q1, none⟩ (.int .u8 ((clrB (byteAt (V q0) q1) q2).toNat : Int))) := fr_set w2 g q1 _
  have B3 : Blk (w2.setCell ⟨g, q1, none⟩ (.int .u8 ((clrB (byteAt (V q0) q1) q2).toNat : Int))) g ((V q0).set q1 (clrB (byteAt (V q0) q1) q2)) := P.out.2.blk.set q1 _
  have A1 := HH.out.quiet f1
  have s1 := P.out.2.new
  have A3 := P.out.1.blk P.out.2.blk f3 P.out.2.out (by have := A1.fr.size; omega) (fun p hp e => by
    have h1 := (A1.kp p hp).1
    have h2 := (Array.getElem?_eq_some_iff.1 h1).1
    omega)
  have PX2 := ab_put A3 (EN.out.tr P.out.2.tr) (P.out.2.tx _ _ TX.out) (page := q0) (by rw [P.out.2.tr.pages]; exact hk) (g := g) (c := 512) (by rw [List.length_set]; exact hl) (Nat.le_refl _) B3.bytes P.out.2.out (by rw [P.out.2.E]; exact hE)
  rw [← HB.out] at PX2 f3 A3
  have F3 := hidI f3
  have HA3 := hidI A3
  clear f3 A3 B3 A1
  refine PX2.mono ?_
  rintro e w4 ⟨r, rfl, P4⟩
  go_wp2_with fail
  go_ret
  refine ⟨r, rfl, hidI ?_⟩
  exact ⟨g, b', w1, w2, _, f1, P.out.2, F3.out, HA3.out, P4.out⟩
end Go.Proofs.YtopaeomjndblkaaGreat

namespace Go.Proofs.YtopaeomjndblkaaGreat
open Go.RowKit Go.Maps
open Pg (SpE diffS)

section
variable {w0 w : World} {bp : Nat} {b : Bk} {K : List (Nat × Obj)} (h : Ab w0 w bp b K)
include h
theorem ssetRoot_out (hp : 0 < b.x.pages) (hs : b.t.st = 0) (k n : Int) : Calls Tryz.prog 64 #[.pointer (some ⟨bp, 0, none⟩), .int .i64 k, .int .i64 n] w fun e w' => e = .returned (.int .i64 7) ∧ w' = w := by
  have WX := swithin_out h hp hs
  clear h
  go_enter Tryz.func64, Tryz.ntmps64
  go_wp2_with (go_at_call 154; refine WX.mono ?_; rintro e wz ⟨rfl, hz⟩; rw [hz]; clear hz)
  go_ret
  exact ⟨rfl, rfl⟩
set_option maxHeartbeats 1000000 in
theorem ssetRoot_arg (hp : 0 < b.x.pages) (hs : b.t.st = 1) (k n : Int) (hk : k < 0 ∨ 8 ≤ k ∨ n < 0 ∨ (b.x.pages : Int) ≤ n) : Calls Tryz.prog 64 #[.pointer (some ⟨bp, 0, none⟩), .int .i64 k, .int .i64 n] w fun e w' => e = .returned (.int .i64 2) ∧ w' = w := by
  have WX := swithin_in h hp hs
  have HQ := ab_pages h
  clear h
  by_cases h1 : k < 0
  · go_enter Tryz.func64, Tryz.ntmps64
    go_wp2_with (go_at_call 154; refine WX.mono ?_; rintro e wz ⟨rfl, hz⟩; rw [hz]; clear hz)
    go_ret
    exact ⟨rfl, rfl⟩
  have g1 : 0 ≤ k := by omega
  by_cases h2 : 8 ≤ k
  · go_enter Tryz.func64, Tryz.ntmps64
    go_wp2_with (go_at_call 154; refine WX.mono ?_; rintro e wz ⟨rfl, hz⟩; rw [hz]; clear hz)
    go_ret
    exact ⟨rfl, rfl⟩
  have g2 : k < 8 := by omega
  by_cases h3 : n < 0
  · go_enter Tryz.func64, Tryz.ntmps64
    go_wp2_with (go_at_call 154; refine WX.mono ?_; rintro e wz ⟨rfl, hz⟩; rw [hz]; clear hz)
    go_ret
    exact ⟨rfl, rfl⟩
  have g3 : 0 ≤ n := by omega
  have g4 : (b.x.pages : Int) ≤ n := by omega
  go_enter Tryz.func64, Tryz.ntmps64
  go_wp2_with (first | (go_at_call 154; refine WX.mono ?_; rintro e wz ⟨rfl, hz⟩; rw [hz]; clear hz) | (go_at_call 24; refine HQ.mono ?_; rintro e wz ⟨rfl, hz⟩; rw [hz]; clear hz))
  go_ret
  exact ⟨rfl, rfl⟩
set_option maxHeartbeats 2000000 in
set_option maxRecDepth 100000 in
theorem ssetRoot_in {nb : Nat} {m : Mst} (en : Env b nb m) {H : List Ch} {V : Pages} (tx : InTx b H V) (hE : b.x.y.E ≤ 390000) (hp2 : b.x.pages ≤ 1000000) (hl : (V 0).length = 512) (hd : IsHd b.x.pages (V 0)) (k n : Nat) (hk : k < 8) (hn : n < b.x.pages) :
    Calls Tryz.prog 64 #[.pointer (some ⟨bp, 0, none⟩), .int .i64 (k : Int), .int .i64 (n : Int)] w fun e w' => ∃ r : Int, e = .returned (.int .i64 r) ∧ Hid (∃ g b' w1 w2 w3, PgTo w w1 b (V 0) g b' ∧ Fr [] w1 w2 ∧ Fr [g] w2 w3 ∧ Ab w0 w3 bp b' K ∧ ∃ S : List SpE, S.map (fun e => (e.off, e.off + e.n)) = diffS (V 0) (putAt (V 0) (8 + 4 * k) n) ∧ ((r = 5 ∧ b'.room < keptOf H + 35 + sumN S ∧ ∃ b'', Ab w0 w' bp b'' K ∧ PutNo w3 w' b' H V b'') ∨ (r = 0 ∧ keptOf H + 35 + sumN S ≤ b'.room ∧ ∃ b'' H', Ab w0 w' bp b'' K ∧ PutOk w3 w' b' H V 0 (putAt (V 0) (8 + 4 * k) n) S b'' H'))) := by
  have hp : 0 < b.x.pages := by omega
  have WX := swithin_in h hp tx.st
  have HQ := ab_pages h
  have HX := shead_yes h tx.sh hp hp2 hl hd
  have HH := hidI h
  have EN := hidI en
  have TX := hidI tx
  clear h en tx
  have k0 : (0 : Int) ≤ (k : Int) := by omega
  have k1 : (k : Int) < 8 := by omega
  have n0 : (0 : Int) ≤ (n : Int) := by omega
  have n1 : (n : Int) < (b.x.pages : Int) := by omega
  go_enter Tryz.func64, Tryz.ntmps64
  go_wp2_with (first
    | (go_at_call 154; refine WX.mono ?_; rintro e wz ⟨rfl, hz⟩; rw [hz]; clear hz)
    | (go_at_call 24; refine HQ.mono ?_; rintro e wz ⟨rfl, hz⟩; rw [hz]; clear hz)
    | (go_at_call 151; refine HX.mono ?_; rintro e w2 ⟨g, b', rfl, P⟩)
    | (go_at_call 161; refine (srootAt_any w2 k hk).mono ?_; rintro e wz ⟨rfl, hz⟩; rw [hz]; clear hz)
    | (go_at_call 160; refine (sputNumber_any w2 g 512 (V 0) hl P.out.2.1 (8 + 4 * k) (by omega) n (by omega)).mono ?_; rintro e w3 ⟨rfl, B3, f3⟩))
  obtain ⟨A2, B2, w1, Q, f2⟩ := P.out
  have s1 := Q.new
  have A3 := A2.blk B2 f3 Q.out (by have := HH.out.fr.size; omega) (fun p hp e => by
    have h1 := (HH.out.kp p hp).1
    have h2 := (Array.getElem?_eq_some_iff.1 h1).1
    omega)
  have PX2 := ab_put A3 (EN.out.tr Q.tr) (Q.tx _ _ TX.out) (page := 0) (by rw [Q.tr.pages]; exact hp) (g := g) (c := 512) (by rw [putAt_length _ _ _ (by omega)]; exact hl) (Nat.le_refl _) B3.bytes Q.out (by rw [Q.E]; exact hE)
  have HQ' := hidI Q
  have HA3 := hidI A3
  clear A3 B3 A2 B2 Q
  refine PX2.mono ?_
  rintro e w4 ⟨r, rfl, P4⟩
  go_wp2_with fail
  go_ret
  refine ⟨r, rfl, hidI ?_⟩
  exact ⟨g, b', w1, w2, w3, HQ'.out, f2, f3, HA3.out, P4.out⟩
end
end Go.Proofs.YtopaeomjndblkaaGreat

