/-
  The free pages, one behind the other: as mathematics; what is done with each.
-/
import Derived.Test.YthajipigppndgaaGreatY33Z
import Derived.Deep.LoopGhost
import Derived.WalkMore
namespace Go.Proofs.YthajipigppndgaaGreat
open Go.RowKit Go.Maps
def MkB (V : Pages) (k : Nat) : Bool := (byteAt (V (1 + k / 4096)) (k % 4096 / 8)).toNat.testBit (k % 8)
theorem and_all : ∀ x : Fin 256, ∀ q : Fin 8, (bits .and .u8 ((x.val : Nat) : Int) (2 ^ q.val) != 0) = x.val.testBit q.val := by decide +kernel
theorem and_bit (x : UInt8) (q : Nat) (hq : q < 8) : (bits .and .u8 (x.toNat : Int) (2 ^ q) != 0) = x.toNat.testBit q := and_all ⟨x.toNat, x.toNat_lt⟩ ⟨q, hq⟩
section
variable {w0 w : World} {bp : Nat} {b : Bk} {K : List (Nat × Obj)} (h : Ab w0 w bp b K)
include h
set_option maxHeartbeats 1000000 in
set_option maxRecDepth 100000 in
theorem smarked_any {V : Pages} (hv : Shows b.x V) (k : Nat) (hk : 1 + k / 4096 < b.x.pages) (hk2 : k ≤ 1000000) (hl : (V (1 + k / 4096)).length = 512) :
    Calls Tryz.prog 80 #[.pointer (some ⟨bp, 0, none⟩), .int .i64 (k : Int)] w fun e w' => ∃ b', e = .returned (.tuple #[.bool (MkB V k), .int .i64 0]) ∧ Hid (∃ g w1, Fr [] w w1 ∧ Ab w0 w' bp b' K ∧ PgTo w1 w' b (V (1 + k / 4096)) g b') := by
  have LX := splace_any w k hk2
  have b2 : k % 4096 / 8 < 512 := by omega
  have b3 : k % 8 < 8 := by omega
  unfold MkB
  generalize 1 + k / 4096 = q0 at *
  generalize k % 4096 / 8 = q1 at *
  generalize k % 8 = q2 at *
  have hq1 : (q1 : Int) < 512 := by omega
  have H := hidI h
  clear h
  go_enter Tryz.func80, Tryz.ntmps80
  go_wp2_with (first | (go_at_call 108; refine LX.mono ?_; rintro e w1 ⟨rfl, f1⟩; have PX := ab_page (H.out.quiet f1) hv hk) | (go_at_call 106; refine PX.mono ?_; rintro e w2 ⟨g, b', rfl, P⟩; have c0 := P.out.2.blk.cell q1 (by rw [hl]; omega)))
  go_ret2
  refine ⟨b', ?_, hidI ⟨g, w1, f1, P.out⟩⟩
  rw [← and_bit (byteAt (V q0) q1) q2 b3]
  rfl
end
end Go.Proofs.YthajipigppndgaaGreat

namespace Go.Proofs.YthajipigppndgaaGreat
open Go.RowKit Go.Maps
section
variable {w0 w : World} {bp : Nat} {b : Bk} {K : List (Nat × Obj)} (h : Ab w0 w bp b K)
include h
set_option maxHeartbeats 1000000 in
set_option maxRecDepth 100000 in
theorem staken_in {V : Pages} (hv : Shows b.x V) (hp : 3 ≤ b.x.pages) (hp2 : b.x.pages ≤ 1000000) (hl : ∀ q, q < b.x.pages → (V q).length = 512) (hd : IsHd b.x.pages (V 0)) (hsh : ∀ w1 g b', PgTo w w1 b (V 0) g b' → Shows b'.x V) (k : Nat) (hk : k < b.x.pages) :
    Calls Tryz.prog 33 #[.pointer (some ⟨bp, 0, none⟩), .int .i64 (k : Int)] w fun e w' => ∃ b'', e = .returned (.tuple #[.bool (MkB V k), .int .i64 0]) ∧ Hid (∃ g w1 b' w2 g2 w3, Ab w0 w' bp b'' K ∧ PgTo w w1 b (V 0) g b' ∧ Fr [] w1 w2 ∧ Fr [] w2 w3 ∧ PgTo w3 w' b' (V (1 + k / 4096)) g2 b'') := by
  have HX := shead_yes h hv (by omega) hp2 (hl 0 (by omega)) hd
  clear h
  have k0 : (0 : Int) ≤ (k : Int) := by omega
  have k1 : (k : Int) < (b.x.pages : Int) := by omega
  go_enter Tryz.func33, Tryz.ntmps33
  go_wp2_with (first | (go_at_call 55; refine HX.mono ?_; rintro e w2 ⟨g, b', rfl, P⟩; have ep : b'.x.pages = b.x.pages := (by obtain ⟨_, _, w1, Q, _⟩ := P.out; exact Q.tr.pages); have HQ := ab_pages P.out.1; rw [ep] at HQ; have MX := smarked_any P.out.1 (V := V) (by obtain ⟨_, _, w1, Q, _⟩ := P.out; exact hsh _ _ _ Q) k (by rw [ep]; omega) (by omega) (hl _ (by omega))) | (go_at_call 16; refine HQ.mono ?_; rintro e wz ⟨rfl, hz⟩; rw [hz]; clear hz) | (go_at_call 80; refine MX.mono ?_; rintro e w4 ⟨b'', rfl, P4⟩))
  go_ret2
  refine ⟨b'', rfl, hidI ?_⟩
  obtain ⟨A, _, w1, Q, f2⟩ := P.out
  obtain ⟨g2, w3, f3, A4, Q4⟩ := P4.out
  exact ⟨g, w1, b', w2, g2, w3, A4, Q, f2, f3, Q4⟩
end
end Go.Proofs.YthajipigppndgaaGreat

namespace Go.Proofs.YthajipigppndgaaGreat
open Go.RowKit Go.Maps
open Pg (SpE diffS)
def setB (x : UInt8) (q : Nat) : UInt8 := UInt8.ofNat (x.toNat ||| 2 ^ q)
def clrB (x : UInt8) (q : Nat) : UInt8 := UInt8.ofNat (x.toNat - (x.toNat &&& 2 ^ q))
theorem or_all : ∀ x : Fin 256, ∀ q : Fin 8, bits .or .u8 ((x.val : Nat) : Int) ((2 ^ q.val : Nat) : Int) = ((x.val ||| 2 ^ q.val) % 256 : Nat) := by decide +kernel
theorem andNot_all : ∀ x : Fin 256, ∀ q : Fin 8, bits .andNot .u8 ((x.val : Nat) : Int) ((2 ^ q.val : Nat) : Int) = ((x.val - (x.val &&& 2 ^ q.val)) % 256 : Nat) := by decide +kernel
theorem setB_int (x : UInt8) (q : Nat) (hq : q < 8) : bits .or .u8 (x.toNat : Int) ((2 ^ q : Nat) : Int) = ((setB x q).toNat : Int) := by
  rw [or_all ⟨x.toNat, x.toNat_lt⟩ ⟨q, hq⟩]
  simp only [setB, UInt8.toNat_ofNat']
theorem clrB_int (x : UInt8) (q : Nat) (hq : q < 8) : bits .andNot .u8 (x.toNat : Int) ((2 ^ q : Nat) : Int) = ((clrB x q).toNat : Int) := by
  rw [andNot_all ⟨x.toNat, x.toNat_lt⟩ ⟨q, hq⟩]
  simp only [clrB, UInt8.toNat_ofNat']
theorem stake1 (w : World) (x y : Int) : Calls Tryz.prog 152 #[.int .u8 x, .int .u8 y] w fun e w' => e = .returned (.int .u8 (bits .or .u8 x y)) ∧ w' = w := by
  go_enter Tryz.func152, Tryz.ntmps152
  go_wp2
  go_ret
  exact ⟨rfl, rfl⟩
set_option maxHeartbeats 2000000 in
set_option maxRecDepth 100000 in
theorem sremap_take {w0 w : World} {bp : Nat} {b : Bk} {K : List (Nat × Obj)} (h : Ab w0 w bp b K) {nb : Nat} {m : Mst} (en : Env b nb m) {H : List Ch} {V : Pages} (tx : InTx b H V) (hE : b.x.y.E ≤ 390000) (k : Nat) (hk : 1 + k / 4096 < b.x.pages) (hk2 : k ≤ 1000000) (hl : (V (1 + k / 4096)).length = 512) :
    Calls Tryz.prog 94 #[.pointer (some ⟨bp, 0, none⟩), .int .i64 (k : Int), .func (.func 152) #[] #[]] w fun e w' => ∃ r : Int, e = .returned (.int .i64 r) ∧ Hid (∃ g b' w1 w2 w3, Fr [] w w1 ∧ PgTo w1 w2 b (V (1 + k / 4096)) g b' ∧ Fr [g] w2 w3 ∧ Ab w0 w3 bp b' K ∧ ∃ S : List SpE, S.map (fun e => (e.off, e.off + e.n)) = diffS (V (1 + k / 4096)) ((V (1 + k / 4096)).set (k % 4096 / 8) (setB (byteAt (V (1 + k / 4096)) (k % 4096 / 8)) (k % 8))) ∧ ((r = 5 ∧ b'.room < keptOf H + 35 + sumN S ∧ ∃ b'', Ab w0 w' bp b'' K ∧ PutNo w3 w' b' H V b'') ∨ (r = 0 ∧ keptOf H + 35 + sumN S ≤ b'.room ∧ ∃ b'' H', Ab w0 w' bp b'' K ∧ PutOk w3 w' b' H V (1 + k / 4096) ((V (1 + k / 4096)).set (k % 4096 / 8) (setB (byteAt (V (1 + k / 4096)) (k % 4096 / 8)) (k % 8))) S b'' H'))) := by
  have LX := splace_any w k hk2
  have b2 : k % 4096 / 8 < 512 := by omega
  have b3 : k % 8 < 8 := by omega
  generalize 1 + k / 4096 = q0 at *
  generalize k % 4096 / 8 = q1 at *
  generalize k % 8 = q2 at *
  have hq1 : (q1 : Int) < 512 := by omega
  have HB := hidI (setB_int (byteAt (V q0) q1) q2 b3)
  obtain ⟨y, HY⟩ : ∃ y : Int, Hid (((2 ^ q2 : Nat) : Int) = y) := ⟨_, hidI rfl⟩
  rw [HY.out] at LX HB
  have HH := hidI h
  have EN := hidI en
  have TX := hidI tx
  clear h en tx
  go_enter Tryz.func94, Tryz.ntmps94
  go_wp2_with (first
    | (go_at_call 108; refine LX.mono ?_; rintro e w1 ⟨rfl, f1⟩; have PX := ab_page (HH.out.quiet f1) TX.out.sh hk)
    | (go_at_call 106; refine PX.mono ?_; rintro e w2 ⟨g, b', rfl, P⟩; have c0 := P.out.2.blk.cell q1 (by rw [hl]; omega); have c1 := P.out.2.blk.frozen q1)
    | (go_at_call 152; refine (stake1 _ _ _).mono ?_; rintro e wz ⟨rfl, hz⟩; rw [hz]; clear hz))
  have f3 : Fr [g] w2 (w2.setCell ⟨g, q1, none⟩ (.int .u8 ((setB (byteAt (V q0) q1) q2).toNat : Int))) := fr_set w2 g q1 _
  have B3 : Blk (w2.setCell ⟨g, q1, none⟩ (.int .u8 ((setB (byteAt (V q0) q1) q2).toNat : Int))) g ((V q0).set q1 (setB (byteAt (V q0) q1) q2)) := P.out.2.blk.set q1 _
  have A1 := HH.out.quiet f1
  have s1 := P.out.2.new
  have A3 := P.out.1.blk P.out.2.blk f3 P.out.2.out (by have := A1.fr.size; omega) (fun p hp e => by
    have h1 := (A1.kp p hp).1
    have h2 := (Array.getElem?_eq_some_iff.1 h1).1
    omega)
  have PX2 := ab_put A3 (EN.out.tr P.out.2.tr) (P.out.2.tx _ _ TX.out) (page := q0) (by rw [P.out.2.tr.pages]; exact hk) (g := g) (c := 512) (by rw [List.length_set]; exact hl) (Nat.le_refl _) B3.bytes P.out.2.out (by rw [P.out.2.E]; exact hE)
  rw [← HB.out] at PX2 f3 A3
  have F3 := hidI f3
  have HA3 := hidI A3
  clear f3 A3 B3 A1
  refine PX2.mono ?_
  rintro e w4 ⟨r, rfl, P4⟩
  go_wp2_with fail
  go_ret
  refine ⟨r, rfl, hidI ?_⟩
  exact ⟨g, b', w1, w2, _, f1, P.out.2, F3.out, HA3.out, P4.out⟩
theorem sgive1 (w : World) (x y : Int) : Calls Tryz.prog 95 #[.int .u8 x, .int .u8 y] w fun e w' => e = .returned (.int .u8 (bits .andNot .u8 x y)) ∧ w' = w := by
  go_enter Tryz.func95, Tryz.ntmps95
  go_wp2
  go_ret
  exact ⟨rfl, rfl⟩
set_option maxHeartbeats 2000000 in
set_option maxRecDepth 100000 in
theorem sremap_give {w0 w : World} {bp : Nat} {b : Bk} {K : List (Nat × Obj)} (h : Ab w0 w bp b K) {nb : Nat} {m : Mst} (en : Env b nb m) {H : List Ch} {V : Pages} (tx : InTx b H V) (hE : b.x.y.E ≤ 390000) (k : Nat) (hk : 1 + k / 4096 < b.x.pages) (hk2 : k ≤ 1000000) (hl : (V (1 + k / 4096)).length = 512) :
    Calls Tryz.prog 94 #[.pointer (some ⟨bp, 0, none⟩), .int .i64 (k : Int), .func (.func 95) #[] #[]] w fun e w' => ∃ r : Int, e = .returned (.int .i64 r) ∧ Hid (∃ g b' w1 w2 w3, Fr [] w w1 ∧ PgTo w1 w2 b (V (1 + k / 4096)) g b' ∧ Fr [g] w2 w3 ∧ Ab w0 w3 bp b' K ∧ ∃ S : List SpE, S.map (fun e => (e.off, e.off + e.n)) = diffS (V (1 + k / 4096)) ((V (1 + k / 4096)).set (k % 4096 / 8) (clrB (byteAt (V (1 + k / 4096)) (k % 4096 / 8)) (k % 8))) ∧ ((r = 5 ∧ b'.room < keptOf H + 35 + sumN S ∧ ∃ b'', Ab w0 w' bp b'' K ∧ PutNo w3 w' b' H V b'') ∨ (r = 0 ∧ keptOf H + 35 + sumN S ≤ b'.room ∧ ∃ b'' H', Ab w0 w' bp b'' K ∧ PutOk w3 w' b' H V (1 + k / 4096) ((V (1 + k / 4096)).set (k % 4096 / 8) (clrB (byteAt (V (1 + k / 4096)) (k % 4096 / 8)) (k % 8))) S b'' H'))) := by
  have LX := splace_any w k hk2
  have b2 : k % 4096 / 8 < 512 := by omega
  have b3 : k % 8 < 8 := by omega
  generalize 1 + k / 4096 = q0 at *
  generalize k % 4096 / 8 = q1 at *
  generalize k % 8 = q2 at *
  have hq1 : (q1 : Int) < 512 := by omega
  have HB := hidI (clrB_int (byteAt (V q0) q1) q2 b3)
  obtain ⟨y, HY⟩ : ∃ y : Int, Hid (((2 ^ q2 : Nat) : Int) = y) := ⟨_, hidI rfl⟩
  rw [HY.out] at LX HB
  have HH := hidI h
  have EN := hidI en
  have TX := hidI tx
  clear h en tx
  go_enter Tryz.func94, Tryz.ntmps94
  go_wp2_with (first
    | (go_at_call 108; refine LX.mono ?_; rintro e w1 ⟨rfl, f1⟩; have PX := ab_page (HH.out.quiet f1) TX.out.sh hk)
    | (go_at_call 106; refine PX.mono ?_; rintro e w2 ⟨g, b', rfl, P⟩; have c0 := P.out.2.blk.cell q1 (by rw [hl]; omega); have c1 := P.out.2.blk.frozen q1)
    | (go_at_call 95; refine (sgive1 _ _ _).mono ?_; rintro e wz ⟨rfl, hz⟩; rw [hz]; clear hz))
  have f3 : Fr [g] w2 (w2.setCell ⟨g, q1, none⟩ (.int .u8 ((clrB (byteAt (V q0) q1) q2).toNat : Int))) := fr_set w2 g q1 _
  have B3 : Blk (w2.setCell ⟨g, q1, none⟩ (.int .u8 ((clrB (byteAt (V q0) q1) q2).toNat : Int))) g ((V q0).set q1 (clrB (byteAt (V q0) q1) q2)) := P.out.2.blk.set q1 _
  have A1 := HH.out.quiet f1
  have s1 := P.out.2.new
  have A3 := P.out.1.blk P.out.2.blk f3 P.out.2.out (by have := A1.fr.size; omega) (fun p hp e => by
    have h1 := (A1.kp p hp).1
    have h2 := (Array.getElem?_eq_some_iff.1 h1).1
    omega)
  have PX2 := ab_put A3 (EN.out.tr P.out.2.tr) (P.out.2.tx _ _ TX.out) (page := q0) (by rw [P.out.2.tr.pages]; exact hk) (g := g) (c := 512) (by rw [List.length_set]; exact hl) (Nat.le_refl _) B3.bytes P.out.2.out (by rw [P.out.2.E]; exact hE)
  rw [← HB.out] at PX2 f3 A3
  have F3 := hidI f3
  have HA3 := hidI A3
  clear f3 A3 B3 A1
  refine PX2.mono ?_
  rintro e w4 ⟨r, rfl, P4⟩
  go_wp2_with fail
  go_ret
  refine ⟨r, rfl, hidI ?_⟩
  exact ⟨g, b', w1, w2, _, f1, P.out.2, F3.out, HA3.out, P4.out⟩
end Go.Proofs.YthajipigppndgaaGreat

namespace Go.Proofs.YthajipigppndgaaGreat
open Go.RowKit Go.Maps
open Pg (SpE diffS)
section
variable {w0 w : World} {bp : Nat} {b : Bk} {K : List (Nat × Obj)} (h : Ab w0 w bp b K)
include h
end
end Go.Proofs.YthajipigppndgaaGreat

namespace Go.Proofs.YthajipigppndgaaGreat
open Go.RowKit Go.Maps
open Pg (SpE diffS byteAt)
structure Rd (w0 w' : World) (bp : Nat) (K : List (Nat × Obj)) (b b' : Bk) : Prop where
  ab : Ab w0 w' bp b' K
  tr : Tr b b'
  t : b'.t = b.t
  E : b'.x.y.E = b.x.y.E
  sh : ∀ V, Shows b.x V → Shows b'.x V
  tx : ∀ H V, InTx b H V → InTx b' H V
section
variable {w0 w w' : World} {bp : Nat} {K : List (Nat × Obj)} {b b1 b' : Bk}
theorem Rd.refl (h : Ab w0 w bp b K) : Rd w0 w bp K b b := ⟨h, Tr.refl b, rfl, rfl, fun _ h => h, fun _ _ h => h⟩
theorem Rd.trans {K1 : List (Nat × Obj)} (h : Rd w0 w bp K1 b b1) (k : Rd w0 w' bp K b1 b') : Rd w0 w' bp K b b' := ⟨k.ab, h.tr.trans k.tr, k.t.trans h.t, k.E.trans h.E, fun V hs => k.sh V (h.sh V hs), fun H V ht => k.tx H V (h.tx H V ht)⟩
theorem Rd.on {K1 : List (Nat × Obj)} (h : Rd w0 w bp K b b') (k : Ab w0 w' bp b' K1) : Rd w0 w' bp K1 b b' := ⟨k, h.tr, h.t, h.E, h.sh, h.tx⟩
theorem Rd.quiet (h : Rd w0 w bp K b b') (f : Fr [] w w') : Rd w0 w' bp K b b' := h.on (h.ab.quiet f)
theorem Rd.of {l : List UInt8} {g : Nat} {w2 w1 : World} (h : Ab w0 w' bp b' K) (P : PgTo w2 w1 b l g b') : Rd w0 w' bp K b b' := ⟨h, P.tr, P.t, P.E, P.sh, P.tx⟩
theorem Rd.idle (h : Rd w0 w bp K b b') {V : Pages} (hi : Idle b V) : Idle b' V := ⟨h.t.trans hi.t, h.sh V hi.sh, by rw [h.tr.T]; exact hi.t0, by rw [h.tr.T]; exact hi.t1⟩
theorem Ab.len (h : Ab w0 w bp b K) {V : Pages} (hv : Shows b.x V) {q : Nat} (hq : q < b.x.pages) : (V q).length = 512 := (hv q hq).len h.bk.po
theorem Ab.fresh (h : Ab w0 w bp b K) {g : Nat} (hg : w.heap.size ≤ g) : w0.heap.size ≤ g ∧ g ∉ b.dp :: b.x.own ∧ ∀ p ∈ K, p.1 ≠ g := by
  refine ⟨Nat.le_trans h.fr.size hg, fun hm => ?_, fun p hp e => ?_⟩
  · have := h.bk.lt g (by rcases List.mem_cons.1 hm with e | e <;> simp [e])
    omega
  · have h1 := (Array.getElem?_eq_some_iff.1 (h.kp p hp).1).1
    omega
end
section
variable {w0 w : World} {bp : Nat} {b : Bk} {K : List (Nat × Obj)} (h : Ab w0 w bp b K)
include h
theorem rd_page {V : Pages} (hv : Shows b.x V) {page : Nat} (hp : page < b.x.pages) :
    Calls Tryz.prog 106 #[.pointer (some ⟨bp, 0, none⟩), .int .i64 (page : Int)] w fun e w' => ∃ g b', e = .returned (.tuple #[.slice (some ⟨g, 0, none⟩) 512 512, .int .i64 0]) ∧ Hid (Rd w0 w' bp K b b' ∧ Blk w' g (V page) ∧ g ∉ b'.dp :: b'.x.own ∧ w.heap.size ≤ g) := by
  refine (ab_page h hv hp).mono ?_
  rintro e w' ⟨g, b', he, P⟩
  exact ⟨g, b', he, hidI ⟨Rd.of P.out.1 P.out.2, P.out.2.blk, P.out.2.out, P.out.2.new⟩⟩
theorem rd_head {V : Pages} (hv : Shows b.x V) (hp : 0 < b.x.pages) (hp2 : b.x.pages ≤ 1000000) (hd : IsHd b.x.pages (V 0)) :
    Calls Tryz.prog 55 #[.pointer (some ⟨bp, 0, none⟩)] w fun e w' => ∃ g b', e = .returned (.tuple #[.slice (some ⟨g, 0, none⟩) 512 512, .int .i64 0]) ∧ Hid (Rd w0 w' bp K b b' ∧ Blk w' g (V 0) ∧ g ∉ b'.dp :: b'.x.own ∧ w.heap.size ≤ g) := by
  refine (shead_yes h hv hp hp2 (h.len hv hp) hd).mono ?_
  rintro e w' ⟨g, b', he, P⟩
  obtain ⟨A, B, w1, Q, _⟩ := P.out
  exact ⟨g, b', he, hidI ⟨Rd.of A Q, B, Q.out, Q.new⟩⟩
theorem rd_taken {V : Pages} (hv : Shows b.x V) (hp : 3 ≤ b.x.pages) (hp2 : b.x.pages ≤ 1000000) (hd : IsHd b.x.pages (V 0)) (k : Nat) (hk : k < b.x.pages) :
    Calls Tryz.prog 33 #[.pointer (some ⟨bp, 0, none⟩), .int .i64 (k : Int)] w fun e w' => ∃ b', e = .returned (.tuple #[.bool (MkB V k), .int .i64 0]) ∧ Hid (Rd w0 w' bp K b b') := by
  refine (staken_in h hv hp hp2 (fun q hq => h.len hv hq) hd (fun w1 g b' P => P.sh V hv) k hk).mono ?_
  rintro e w' ⟨b'', he, P⟩
  obtain ⟨g, w1, b', w2, g2, w3, A, Q, _, _, Q2⟩ := P.out
  exact ⟨b'', he, hidI ⟨A, Q.tr.trans Q2.tr, Q2.t.trans Q.t, Q2.E.trans Q.E, fun V hs => Q2.sh V (Q.sh V hs), fun H V ht => Q2.tx H V (Q.tx H V ht)⟩⟩
end
structure In (w0 w : World) (bp : Nat) (K : List (Nat × Obj)) (nb : Nat) (m : Mst) (U : Pages) (b : Bk) (H : List Ch) (V : Pages) : Prop where
  ab : Ab w0 w bp b K
  env : Env b nb m
  tx : InTx b H V
  un : undoAll H V = U
def phN (b : Bk) (H : List Ch) : Int := (b.x.y.E : Int) + keptOf H
def capN (b : Bk) : Int := 408 * (b.x.y.count - 1) + (b.x.y.A : Int)
structure Did (w0 w' : World) (bp : Nat) (K : List (Nat × Obj)) (nb : Nat) (m : Mst) (U : Pages) (b : Bk) (H : List Ch) (V' : Pages) (c : Int) (b' : Bk) (H' : List Ch) : Prop where
  i : In w0 w' bp K nb m U b' H' V'
  tr : Tr b b'
  ph : phN b' H' ≤ phN b H + c
section
variable {w0 w w' w2 : World} {bp : Nat} {K : List (Nat × Obj)} {nb : Nat} {m : Mst} {U : Pages} {b b' b2 : Bk} {H H' H2 : List Ch} {V V' V2 : Pages} {c d : Int}
theorem In.rd {K1 : List (Nat × Obj)} (h : In w0 w bp K nb m U b H V) (r : Rd w0 w' bp K1 b b') : In w0 w' bp K1 nb m U b' H V := ⟨r.ab, h.env.tr r.tr, r.tx H V h.tx, h.un⟩
theorem In.quiet (h : In w0 w bp K nb m U b H V) (f : Fr [] w w') : In w0 w' bp K nb m U b H V := ⟨h.ab.quiet f, h.env, h.tx, h.un⟩
theorem In.on {K1 : List (Nat × Obj)} (h : In w0 w bp K nb m U b H V) (k : Ab w0 w' bp b K1) : In w0 w' bp K1 nb m U b H V := ⟨k, h.env, h.tx, h.un⟩
theorem In.did (h : In w0 w bp K nb m U b H V) : Did w0 w bp K nb m U b H V 0 b H := ⟨h, Tr.refl b, by omega⟩
theorem Rd.did (r : Rd w0 w' bp K b b') (h : In w0 w bp K nb m U b H V) : Did w0 w' bp K nb m U b H V 0 b' H := ⟨h.rd r, r.tr, by unfold phN; rw [r.E]; omega⟩
theorem Did.trans (h : Did w0 w bp K nb m U b H V c b' H') (k : Did w0 w' bp K nb m U b' H' V2 d b2 H2) : Did w0 w' bp K nb m U b H V2 (c + d) b2 H2 := ⟨k.i, h.tr.trans k.tr, by have := h.ph; have := k.ph; omega⟩
theorem Did.le (h : Did w0 w bp K nb m U b H V c b' H') (hc : c ≤ d) : Did w0 w bp K nb m U b H V d b' H' := ⟨h.i, h.tr, by have := h.ph; omega⟩
theorem Did.quiet (h : Did w0 w bp K nb m U b H V c b' H') (f : Fr [] w w') : Did w0 w' bp K nb m U b H V c b' H' := ⟨h.i.quiet f, h.tr, h.ph⟩
theorem Did.rd (h : Did w0 w bp K nb m U b H V c b' H') (r : Rd w0 w' bp K b' b2) : Did w0 w' bp K nb m U b H V c b2 H' := ⟨h.i.rd r, h.tr.trans r.tr, by have := h.ph; unfold phN at *; rw [r.E]; omega⟩
theorem Tr.cap (h : Tr b b') : capN b' = capN b := by unfold capN; rw [h.count, h.A]
theorem In.pg (h : In w0 w bp K nb m U b H V) : (b.x.pages : Int) = (nb : Int) - 2 - (nb : Int) / 2 := h.env.pages
theorem In.pg3 (h : In w0 w bp K nb m U b H V) : 10 ≤ b.x.pages ∧ b.x.pages ≤ 65536 := by
  have h1 := h.env.pages
  have h2 := h.env.n0
  have h3 := h.env.n1
  omega
theorem In.E (_h : In w0 w bp K nb m U b H V) : (b.x.y.E : Int) ≤ phN b H := by
  have := keptOf_nonneg H
  unfold phN
  omega
theorem In.len (h : In w0 w bp K nb m U b H V) {q : Nat} (hq : q < b.x.pages) : (V q).length = 512 := h.ab.len h.tx.sh hq
theorem In.capn (h : In w0 w bp K nb m U b H V) : capN b = 408 * ((nb : Int) / 2 - 1) + (b.x.y.A : Int) := by
  unfold capN
  rw [h.env.count]
theorem PutOk.did {S : List SpE} {page : Nat} {data : List UInt8} (h : In w0 w bp K nb m U b H V) {w1 : World} (ab : Ab w0 w' bp b' K) (ok : PutOk w1 w' b H V page data S b' H') (hc : sumN S ≤ c) : Did w0 w' bp K nb m U b H (setPg V page data) c b' H' := by
  refine ⟨⟨ab, ok.env h.env, ok.tx, ok.un.trans h.un⟩, ok.tr, ?_⟩
  have h1 := ok.E
  have h2 := ok.keq
  have h3 := sumN_eq S
  unfold phN
  omega
theorem PutNo.did (h : In w0 w bp K nb m U b H V) {w1 : World} (ab : Ab w0 w' bp b' K) (no : PutNo w1 w' b H V b') : Did w0 w' bp K nb m U b H V 0 b' H := by
  refine ⟨⟨ab, h.env.tr no.tr, no.tx, h.un⟩, no.tr, ?_⟩
  have h1 := no.E
  unfold phN
  omega
theorem in_put (h : In w0 w bp K nb m U b H V) {page : Nat} (hp : page < b.x.pages) {g k : Nat} {data : List UInt8} (hd : data.length = 512) (hk : 512 ≤ k) (hb : BytesAt w (some ⟨g, 0, none⟩) data) (hgo : g ∉ b.dp :: b.x.own) (hP : phN b H ≤ 380000) (hc : ∀ S : List SpE, S.map (fun e => (e.off, e.off + e.n)) = diffS (V page) data → sumN S ≤ c) :
    Calls Tryz.prog 37 #[.pointer (some ⟨bp, 0, none⟩), .int .i64 (page : Int), .slice (some ⟨g, 0, none⟩) 512 k] w fun e w' => ∃ r : Int, e = .returned (.int .i64 r) ∧ Hid ((r = 5 ∧ capN b < phN b H + 35 + c ∧ ∃ b', Did w0 w' bp K nb m U b H V 0 b' H) ∨ (r = 0 ∧ ∃ b' H', Did w0 w' bp K nb m U b H (setPg V page data) c b' H')) := by
  have hE := h.E
  refine (ab_put h.ab h.env h.tx hp hd hk hb hgo (by omega)).mono ?_
  rintro e w' ⟨r, he, P⟩
  obtain ⟨S, hS, hq⟩ := P.out
  have hs := hc S hS
  refine ⟨r, he, hidI ?_⟩
  rcases hq with ⟨h1, h2, b', h3, no⟩ | ⟨h1, h2, b', H', h3, ok⟩
  · refine Or.inl ⟨h1, ?_, b', PutNo.did h h3 no⟩
    unfold Bk.room at h2
    unfold capN phN
    omega
  · exact Or.inr ⟨h1, b', H', PutOk.did h h3 ok hs⟩
theorem byteAt_set_ne {l : List UInt8} {q k : Nat} (x : UInt8) (h : k ≠ q) : byteAt (l.set q x) k = byteAt l k := by
  unfold byteAt
  rw [List.getD_eq_getElem?_getD, List.getD_eq_getElem?_getD, List.getElem?_set_ne (by omega)]
theorem cost_set {l : List UInt8} {q : Nat} {x : UInt8} {S : List SpE} (hS : S.map (fun e => (e.off, e.off + e.n)) = diffS l (l.set q x)) : sumN S ≤ 97 := by
  have h := sum_within (i := q) (j := q + 1) (fun k _ hk => (byteAt_set_ne x (by omega)).symm) hS
  omega
theorem sremap_did {k : Nat} {z : UInt8} (h : In w0 w bp K nb m U b H V) {r : Int} (P : (∃ g b' w1 w2 w3, Fr [] w w1 ∧ PgTo w1 w2 b (V (1 + k / 4096)) g b' ∧ Fr [g] w2 w3 ∧ Ab w0 w3 bp b' K ∧ ∃ S : List SpE, S.map (fun e => (e.off, e.off + e.n)) = diffS (V (1 + k / 4096)) ((V (1 + k / 4096)).set (k % 4096 / 8) z) ∧ ((r = 5 ∧ b'.room < keptOf H + 35 + sumN S ∧ ∃ b'', Ab w0 w' bp b'' K ∧ PutNo w3 w' b' H V b'') ∨ (r = 0 ∧ keptOf H + 35 + sumN S ≤ b'.room ∧ ∃ b'' H', Ab w0 w' bp b'' K ∧ PutOk w3 w' b' H V (1 + k / 4096) ((V (1 + k / 4096)).set (k % 4096 / 8) z) S b'' H')))) :
    (r = 5 ∧ capN b < phN b H + 35 + 97 ∧ ∃ b', Did w0 w' bp K nb m U b H V 0 b' H) ∨ (r = 0 ∧ ∃ b' H', Did w0 w' bp K nb m U b H (setPg V (1 + k / 4096) ((V (1 + k / 4096)).set (k % 4096 / 8) z)) 97 b' H') := by
  obtain ⟨g, b', w1, w2, w3, _, Q, _, A3, S, hS, hq⟩ := P
  have r3 : Rd w0 w3 bp K b b' := Rd.of A3 Q
  have d3 := r3.did h
  have hs := cost_set hS
  rcases hq with ⟨h1, h2, b'', h3, no⟩ | ⟨h1, h2, b'', H', h3, ok⟩
  · refine Or.inl ⟨h1, ?_, b'', ((d3.trans (PutNo.did d3.i h3 no)).le (by omega))⟩
    have e1 := d3.tr.cap
    have e2 := d3.ph
    unfold Bk.room at h2
    unfold capN phN at *
    omega
  · exact Or.inr ⟨h1, b'', H', (d3.trans (PutOk.did d3.i h3 ok hs)).le (by omega)⟩
end
theorem in_remapTake {w0 w : World} {bp : Nat} {K : List (Nat × Obj)} {nb : Nat} {m : Mst} {U : Pages} {b : Bk} {H : List Ch} {V : Pages} (h : In w0 w bp K nb m U b H V) (hP : phN b H ≤ 380000) (k : Nat) (hk : k < b.x.pages) :
    Calls Tryz.prog 94 #[.pointer (some ⟨bp, 0, none⟩), .int .i64 (k : Int), .func (.func 152) #[] #[]] w fun e w' => ∃ r : Int, e = .returned (.int .i64 r) ∧ Hid ((r = 5 ∧ capN b < phN b H + 35 + 97 ∧ ∃ b', Did w0 w' bp K nb m U b H V 0 b' H) ∨ (r = 0 ∧ ∃ b' H', Did w0 w' bp K nb m U b H (setPg V (1 + k / 4096) ((V (1 + k / 4096)).set (k % 4096 / 8) (setB (byteAt (V (1 + k / 4096)) (k % 4096 / 8)) (k % 8)))) 97 b' H')) := by
  have hE := h.E
  have h3 := h.pg3
  have hq : 1 + k / 4096 < b.x.pages := by omega
  refine (sremap_take h.ab h.env h.tx (by omega) k hq (by omega) (h.len hq)).mono ?_
  rintro e w' ⟨r, he, P⟩
  exact ⟨r, he, hidI (sremap_did h P.out)⟩
theorem in_remapGive {w0 w : World} {bp : Nat} {K : List (Nat × Obj)} {nb : Nat} {m : Mst} {U : Pages} {b : Bk} {H : List Ch} {V : Pages} (h : In w0 w bp K nb m U b H V) (hP : phN b H ≤ 380000) (k : Nat) (hk : k < b.x.pages) :
    Calls Tryz.prog 94 #[.pointer (some ⟨bp, 0, none⟩), .int .i64 (k : Int), .func (.func 95) #[] #[]] w fun e w' => ∃ r : Int, e = .returned (.int .i64 r) ∧ Hid ((r = 5 ∧ capN b < phN b H + 35 + 97 ∧ ∃ b', Did w0 w' bp K nb m U b H V 0 b' H) ∨ (r = 0 ∧ ∃ b' H', Did w0 w' bp K nb m U b H (setPg V (1 + k / 4096) ((V (1 + k / 4096)).set (k % 4096 / 8) (clrB (byteAt (V (1 + k / 4096)) (k % 4096 / 8)) (k % 8)))) 97 b' H')) := by
  have hE := h.E
  have h3 := h.pg3
  have hq : 1 + k / 4096 < b.x.pages := by omega
  refine (sremap_give h.ab h.env h.tx (by omega) k hq (by omega) (h.len hq)).mono ?_
  rintro e w' ⟨r, he, P⟩
  exact ⟨r, he, hidI (sremap_did h P.out)⟩
end Go.Proofs.YthajipigppndgaaGreat

namespace Go.Proofs.YthajipigppndgaaGreat
open Go.RowKit Go.Maps
def runF (V : Pages) (nx : Int → Nat → Int) (go : Bool) : Nat → Nat → Int → Int
  | _, 0, s => s
  | j, r + 1, s => if MkB V j then runF V nx go (j + 1) r s else if go then runF V nx go (j + 1) r (nx s j) else nx s j
theorem runF_set {V : Pages} {nx : Int → Nat → Int} {go : Bool} {j n : Nat} {s : Int} (hj : j < n) (h : MkB V j = true) : runF V nx go j (n - j) s = runF V nx go (j + 1) (n - (j + 1)) s := by
  obtain ⟨r, hr⟩ : ∃ r, n - j = r + 1 := ⟨n - j - 1, by omega⟩
  rw [hr, show n - (j + 1) = r by omega]
  simp [runF, h]
theorem runF_end {V : Pages} {nx : Int → Nat → Int} {j n : Nat} {s : Int} (hj : j < n) (h : MkB V j = false) : runF V nx false j (n - j) s = nx s j := by
  obtain ⟨r, hr⟩ : ∃ r, n - j = r + 1 := ⟨n - j - 1, by omega⟩
  rw [hr]
  simp [runF, h]
theorem runF_out {V : Pages} {nx : Int → Nat → Int} {go : Bool} {j n : Nat} {s : Int} (hj : n ≤ j) : runF V nx go j (n - j) s = s := by
  rw [show n - j = 0 by omega]
  rfl
theorem runF_skip {V : Pages} {nx : Int → Nat → Int} {go : Bool} {n : Nat} {s : Int} : ∀ (r j : Nat), (∀ i, i < r → MkB V (j + i) = true) → runF V nx go j (n - j) s = runF V nx go (j + r) (n - (j + r)) s
  | 0, _, _ => rfl
  | r + 1, j, h => by
    by_cases hj : j < n
    · rw [runF_set hj (h 0 (by omega)), runF_skip r (j + 1) (fun i hi => by have := h (i + 1) (by omega); rwa [show j + (i + 1) = j + 1 + i by omega] at this)]
      rw [show j + 1 + r = j + (r + 1) by omega]
    · rw [runF_out (by omega), runF_out (by omega)]
theorem bit_of {V : Pages} {t a i : Nat} (ha : a < 512) (hi : i < 8) : MkB V (4096 * t + 8 * a + i) = (byteAt (V (1 + t)) a).toNat.testBit i := by
  unfold MkB
  rw [show 1 + (4096 * t + 8 * a + i) / 4096 = 1 + t by omega, show (4096 * t + 8 * a + i) % 4096 / 8 = a by omega, show (4096 * t + 8 * a + i) % 8 = i by omega]
theorem all_255 : ∀ i : Fin 8, (255 : Nat).testBit i.val = true := by decide
theorem shr1_all : ∀ x : Fin 256, ∀ i : Fin 8, (bits .and .u8 ((x.val : Int) / 2 ^ i.val) 1 == 0) = !x.val.testBit i.val := by decide +kernel
theorem shr1 (x i : Nat) (hx : x < 256) (hi : i < 8) : (bits .and .u8 ((x : Int) / 2 ^ i) 1 == 0) = !x.testBit i := shr1_all ⟨x, hx⟩ ⟨i, hi⟩
def CelI (w : World) (c : Nat) (s : Int) : Prop := w.heap[c]? = some (.cells #[.int .i64 s] 3)
theorem CelI.c0 {w : World} {c : Nat} {s : Int} (h : CelI w c s) : w.cell? ⟨c, 0, none⟩ = some (.int .i64 s) := cell_of_row w c 0 _ _ _ h
theorem CelI.kept {w w' : World} {L : List Nat} {c : Nat} {s : Int} (h : CelI w c s) (f : Fr L w w') (hn : c ∉ L) : CelI w' c s := f.same hn h
theorem CelI.set {w : World} {c : Nat} {s : Int} (h : CelI w c s) (s' : Int) : CelI (w.setCell ⟨c, 0, none⟩ (.int .i64 s')) c s' := heap_setCell_same w c 0 _ _ _ h
theorem Ab.cel {w0 w w' : World} {bp : Nat} {b : Bk} {K : List (Nat × Obj)} (h : Ab w0 w bp b K) {c : Nat} {s : Int} (hc : CelI w c s) (f : Fr [c] w w') (hcw : w0.heap.size ≤ c) (hK : ∀ p ∈ K, p.1 ≠ c) : Ab w0 w' bp b K := by
  have a := h.bk.away hc (by decide) (by decide) (by decide) (by decide)
  exact h.put f a.1 a.2.1 a.2.2 hcw hK
theorem Ab.celOut {w0 w : World} {bp : Nat} {b : Bk} {K : List (Nat × Obj)} (h : Ab w0 w bp b K) {c : Nat} {s : Int} (hc : CelI w c s) : c ∉ b.dp :: b.x.own := (h.bk.away hc (by decide) (by decide) (by decide) (by decide)).2.1
def nxLow (_ : Int) (k : Nat) : Int := (k : Int)
theorem slow1_any (w : World) (c k : Nat) (s : Int) (hc : CelI w c s) : Calls Tryz.prog 226 #[.int .i64 (k : Int), .pointer (some ⟨c, 0, none⟩)] w fun e w' => e = .returned (.bool false) ∧ CelI w' c (nxLow s k) ∧ Fr [c] w w' := by
  have c0 := hc.c0
  have z0 := frozen_of_row w c 0 _ _ hc
  go_enter Tryz.func226, Tryz.ntmps226
  go_wp2
  go_ret
  exact ⟨rfl, hc.set _, fr_set w c 0 _⟩
structure EF (w0 wx : World) (bp : Nat) (K : List (Nat × Obj)) (b b' : Bk) (c : Nat) (s : Int) (g : Nat) (l : List UInt8) : Prop where
  rd : Rd w0 wx bp K b b'
  cl : CelI wx c s
  bl : Blk wx g l
  hcw : w0.heap.size ≤ c
  hcK : ∀ p ∈ K, p.1 ≠ c
theorem EF.step {w0 wx w' : World} {bp : Nat} {K : List (Nat × Obj)} {b b' : Bk} {c : Nat} {s s' : Int} {g : Nat} {l : List UInt8} (h : EF w0 wx bp K b b' c s g l) (hc : CelI w' c s') (f : Fr [c] wx w') : EF w0 w' bp K b b' c s' g l := by
  refine ⟨h.rd.on (h.rd.ab.cel h.cl f h.hcw h.hcK), hc, h.bl.kept f (fun e => ?_), h.hcw, h.hcK⟩
  have e' : g = c := by simpa using e
  subst e'
  have h1 : wx.heap[g]? = some (.cells (arr l) 5) := h.bl
  have h2 := h.cl
  unfold CelI at h2
  rw [h1] at h2
  simp at h2
end Go.Proofs.YthajipigppndgaaGreat

