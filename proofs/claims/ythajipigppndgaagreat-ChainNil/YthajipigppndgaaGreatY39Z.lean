/-
  The link behind another one; what keeps blocks while a book is read.
-/
import Derived.Test.YthajipigppndgaaGreatY38Z
import Derived.Test.YthajipigppndgaaGreatY37Z
namespace Go.Proofs.YthajipigppndgaaGreat
open Go.RowKit Go.Maps
section
variable {w0 w : World} {bp : Nat} {b : Bk} {K : List (Nat × Obj)} (h : Ab w0 w bp b K)
include h
set_option maxHeartbeats 4000000 in
set_option maxRecDepth 100000 in
theorem nload_yes {V : Pages} (hv : Shows b.x V) (hp3 : 3 ≤ b.x.pages) (hp : b.x.pages ≤ 1000000) (hd : IsHd b.x.pages (V 0)) (k : Nat) (h1 : sheetOwn b.x.pages ≤ k) (h2 : k < b.x.pages) (hm : MkB V k = true) (ho : lkOk (V k) = true) :
    Calls Tryz.prog 91 #[.pointer (some ⟨bp, 0, none⟩), .int .i64 (k : Int), .int .u8 (Pg.kindOf (V k))] w fun e w' => ∃ b' cell pb, e = .returned (.tuple #[.agg (lkV k (Pg.kindOf (V k)) (Pg.nextOf (V k)) (restOf cell) (some ⟨pb, 2, none⟩) (cell.length - 2) (cell.length - 2)), .int .i64 0]) ∧ Hid (Rd w0 w' bp K b b' ∧ Pg.cellsOf (V k) = [cell] ∧ 2 < cell.length ∧ Blk w' pb cell ∧ w.heap.size ≤ pb ∧ pb ∉ b'.dp :: b'.x.own) := by
  have HF := hidI (And.intro (h.fresh (Nat.le_refl _)).1 (h.fresh (Nat.le_refl _)).2.2)
  have A1 := (h.quiet ((Fr.refl [] w).alloc (.cells noLink 79))).add (heap_alloc_new w (.cells noLink 79)) (h.fresh (Nat.le_refl _)).2.1
  obtain ⟨z, hz⟩ : ∃ z, w.heap.size = z := ⟨_, rfl⟩
  obtain ⟨w1, hw1⟩ : ∃ w1, w.alloc (.cells noLink 79) = w1 := ⟨_, rfl⟩
  rw [hz, hw1] at A1
  rw [hz] at HF
  have PX := sheet_in A1 hv hp k h1 h2
  have HV := hidI hv
  have HP := hidI (And.intro hp3 (And.intro hp h2))
  have HD := hidI hd
  have HM := hidI hm
  have HO := hidI ho
  clear h A1 hv hp3 hp hd h1 h2 hm ho
  unfold noLink at hw1
  go_enter Tryz.func91, Tryz.ntmps91
  go_wp2_with (first
    | (go_at_call 165
       refine PX.mono ?_
       rintro e w2 ⟨g, b1, rfl, P⟩
       have A2 := P.out.1.ab.add P.out.2.1 P.out.2.2.1
       have TX := rd_taken A2 (P.out.1.sh V HV.out) (by rw [P.out.1.tr.pages]; exact HP.out.1) (by rw [P.out.1.tr.pages]; exact HP.out.2.1) (by rw [P.out.1.tr.pages]; exact HD.out) k (by rw [P.out.1.tr.pages]; exact HP.out.2.2)
       have hl : (V k).length = 512 := P.out.1.ab.len (P.out.1.sh V HV.out) (by rw [P.out.1.tr.pages]; exact HP.out.2.2)
       rw [HM.out] at TX
       clear A2)
    | (go_at_call 33
       refine TX.mono ?_
       rintro e w3 ⟨b2, rfl, P2⟩
       have kb := P2.out.ab.kp _ (List.mem_cons_self ..)
       have bl : Blk w3 g (V k) := kb.1
       have NX := nparse_any w3 g 512 (V k) ⟨hl, bl.bytes, Nat.le_refl _⟩
       rw [HO.out] at NX
       have hz3 : w3.heap[z]? = some (.cells noLink 79) := (P2.out.ab.kp (z, .cells noLink 79) (by simp)).1
       have HZ3 := hidI hz3
       clear kb bl hz3)
    | (go_at_call 166
       refine NX.mono ?_
       rintro e w4 ⟨vs, rfl, N⟩
       have hx : ∃ (cell : List UInt8) (pb : Nat), vs = lkV 0 (Pg.kindOf (V k)) (Pg.nextOf (V k)) (restOf cell) (some ⟨pb, 2, none⟩) (cell.length - 2) (cell.length - 2) ∧ Hid (Pg.cellsOf (V k) = [cell] ∧ 2 < cell.length ∧ Blk w4 pb cell ∧ w3.heap.size ≤ pb) := by
         rcases N.out.1 with ⟨_, hv⟩ | ⟨cell, pb, h1, h2, hv, h3⟩
         · cases hv
         · exact ⟨cell, pb, hv, hidI ⟨h1, h2, h3⟩⟩
       obtain ⟨cell, pb, rfl, CB⟩ := hx
       obtain ⟨rs, hrs⟩ : ∃ rs, restOf cell = rs := ⟨_, rfl⟩
       obtain ⟨n, hn⟩ : ∃ n, cell.length - 2 = n := ⟨_, rfl⟩
       have HRN := hidI (And.intro hrs hn)
       rw [hrs, hn] at N ⊢
       clear hrs hn
       obtain ⟨nx, hnx⟩ : ∃ nx : Int, (Pg.nextOf (V k) : Int) = nx := ⟨_, rfl⟩
       have HNX := hidI hnx
       rw [hnx] at N ⊢
       clear hnx
       have hs : (lkV 0 (Pg.kindOf (V k)) nx rs (some ⟨pb, 2, none⟩) n n).size = 5 ∧ ((lkV 0 (Pg.kindOf (V k)) nx rs (some ⟨pb, 2, none⟩) n n).all fun v => v.oneCell') = true := ⟨rfl, lkV_one _ _ _ _ _ _ _⟩
       have HS := hidI hs
       have Z4 := heap_alloc_new w4 (.cells noLink 79)
       have N4 := hidI (N.out.2.alloc (.cells noLink 79))
       have hg4 := N4.out.size
       clear hs)
    | (refine wp_storeL rfl _ _ rfl w4.heap.size noLink (lkV 0 (Pg.kindOf (V k)) nx rs (some ⟨pb, 2, none⟩) n n) rfl HS.out.1 HS.out.2 rfl rfl Z4 ?_
       intro w5 b5 f5
       have hz4 : w4.heap[z]? = some (.cells noLink 79) := N.out.2.same (by simp) HZ3.out
       have hzl : z < w4.heap.size := (Array.getElem?_eq_some_iff.1 hz4).1
       have F5 : Hid (Fr [] w3 w5) := hidI (N4.out.then f5 (fun i hi hm => by
         have e := List.mem_singleton.1 hm
         have := N.out.2.size
         omega))
       have hz5 := F5.out.same (by simp) HZ3.out
       have HZ5 := hidI hz5
       have c0 : w5.cell? ⟨w4.heap.size, 0, none⟩ = some (.int .i64 0) := cell_of_row w5 w4.heap.size 0 _ _ _ b5
       have c1 : w5.cell? ⟨w4.heap.size, 1, none⟩ = some (.int .u8 (Pg.kindOf (V k))) := cell_of_row w5 w4.heap.size 1 _ _ _ b5
       have c2 := frozen_of_row w5 w4.heap.size 0 _ _ b5
       have L5 : (w5.setCell ⟨w4.heap.size, 0, none⟩ (.int .i64 (k : Int))).heap[w4.heap.size]? = some (.cells (lkV k (Pg.kindOf (V k)) nx rs (some ⟨pb, 2, none⟩) n n) 79) := heap_setCell_same w5 w4.heap.size 0 _ _ (.int .i64 (k : Int)) b5
       have F6 : Hid (Fr [] w3 (w5.setCell ⟨w4.heap.size, 0, none⟩ (.int .i64 (k : Int)))) := hidI (F5.out.setCell _ _ (fun hh => by
         have := N.out.2.size
         exact absurd hh (by simp; omega)))
       have F7 : Hid (Fr [] w4 (w5.setCell ⟨w4.heap.size, 0, none⟩ (.int .i64 (k : Int)))) := hidI ((((Fr.refl [] w4).alloc _).then f5 (fun i hi hm => by
         have e := List.mem_singleton.1 hm
         omega)).setCell _ _ (fun hh => absurd hh (by simp)))
       have hz6 := F6.out.same (by simp) HZ3.out
       have HZ6 := hidI hz6
       clear f5 hz4 hzl hz5 hz6)
    | (refine wp_loadL rfl _ rfl w4.heap.size _ rfl rfl L5 ?_)
    | (refine wp_storeL rfl _ _ rfl z noLink (lkV k (Pg.kindOf (V k)) nx rs (some ⟨pb, 2, none⟩) n n) rfl rfl (lkV_one _ _ _ _ _ _ _) rfl rfl HZ6.out ?_
       intro w6 b6 f6))
  have hzl : z < w3.heap.size := (Array.getElem?_eq_some_iff.1 HZ3.out).1
  have hno := (P2.out.ab.fresh CB.out.2.2.2).2.1
  exact bodyPost_ret (resLT rfl _ _ z _ rfl rfl b6) rfl ⟨b2, cell, pb, by rw [HRN.out.1, HRN.out.2, HNX.out]; rfl, hidI ⟨by
    have a5 := (P2.out.ab.quiet F6.out).less (K' := K) (fun p hp => by simp [hp])
    have aw := a5.bk.away HZ6.out (by decide) (by decide) (by decide) (by decide)
    have a6 := a5.put f6 aw.1 aw.2.1 aw.2.2 HF.out.1 HF.out.2
    exact (P.out.1.trans P2.out).on a6, CB.out.1, CB.out.2.1, (CB.out.2.2.1.kept F7.out (by simp)).kept f6 (by
      have := CB.out.2.2.2
      simp
      omega), by
      have := CB.out.2.2.2
      omega, hno⟩⟩
end
end Go.Proofs.YthajipigppndgaaGreat

namespace Go.Proofs.YthajipigppndgaaGreat
open Go.RowKit Go.Maps
structure LkAt (pages : Nat) (V : Pages) (k kind : Nat) : Prop where
  lo : sheetOwn pages ≤ k
  hi : k < pages
  mk' : MkB V k = true
  ok : lkOk (V k) = true
  kind : Pg.kindOf (V k) = kind
section
variable {w0 w : World} {bp : Nat} {b : Bk} {K : List (Nat × Obj)} (h : Ab w0 w bp b K)
include h
theorem nload_no {V : Pages} (hv : Shows b.x V) (hp3 : 3 ≤ b.x.pages) (hp : b.x.pages ≤ 1000000) (hd : IsHd b.x.pages (V 0)) (k : Int) (kind : Nat) (hn : ∀ q : Nat, k = q → ¬ LkAt b.x.pages V q kind) :
    Calls Tryz.prog 91 #[.pointer (some ⟨bp, 0, none⟩), .int .i64 k, .int .u8 (kind : Int)] w fun e w' => ∃ b', e = .returned (.tuple #[.agg noLink, .int .i64 4]) ∧ Hid (Rd w0 w' bp K b b') := by
  by_cases ho : k < (sheetOwn b.x.pages : Int) ∨ (b.x.pages : Int) ≤ k
  · refine (nload_out h hp k kind ho).mono ?_
    rintro e w' ⟨rfl, f⟩
    exact ⟨b, rfl, hidI ((Rd.refl h).quiet f)⟩
  · obtain ⟨q, rfl⟩ : ∃ q : Nat, k = q := ⟨k.toNat, by omega⟩
    have h1 : sheetOwn b.x.pages ≤ q := by omega
    have h2 : q < b.x.pages := by omega
    cases hm : MkB V q with
    | false => exact nload_free h hv hp3 hp hd q h1 h2 hm kind
    | true =>
      cases hk : lkOk (V q) with
      | false => exact nload_wrong h hv hp3 hp hd q h1 h2 hm hk kind
      | true => exact nload_kind h hv hp3 hp hd q h1 h2 hm hk kind (fun e => hn q rfl ⟨h1, h2, hm, hk, by omega⟩)
theorem nload_lk {V : Pages} (hv : Shows b.x V) (hp3 : 3 ≤ b.x.pages) (hp : b.x.pages ≤ 1000000) (hd : IsHd b.x.pages (V 0)) (k kind : Nat) (hn : LkAt b.x.pages V k kind) :
    Calls Tryz.prog 91 #[.pointer (some ⟨bp, 0, none⟩), .int .i64 (k : Int), .int .u8 (kind : Int)] w fun e w' => ∃ b' cell pb, e = .returned (.tuple #[.agg (lkV k kind (Pg.nextOf (V k)) (restOf cell) (some ⟨pb, 2, none⟩) (cell.length - 2) (cell.length - 2)), .int .i64 0]) ∧ Hid (Rd w0 w' bp K b b' ∧ Pg.cellsOf (V k) = [cell] ∧ 2 < cell.length ∧ Blk w' pb cell ∧ w.heap.size ≤ pb ∧ pb ∉ b'.dp :: b'.x.own) := by
  obtain ⟨h1, h2, hm, hk, rfl⟩ := hn
  exact nload_yes h hv hp3 hp hd k h1 h2 hm hk
end
end Go.Proofs.YthajipigppndgaaGreat

namespace Go.Proofs.YthajipigppndgaaGreat
open Go.RowKit Go.Maps
theorem heap_putObj_same (w : World) {g : Nat} {o : Obj} (o' : Obj) (h : w.heap[g]? = some o) : (w.putObj g o').heap[g]? = some o' := World.putObj_heap_same (Array.getElem?_eq_some_iff.1 h).1
theorem fr_putObj (w : World) (g : Nat) (o : Obj) : Fr [g] w (w.putObj g o) := ⟨rfl, rfl, rfl, by simp, fun k _ hk => World.putObj_heap_other (fun e => hk (by simp [e]))⟩
theorem BkAt.awayO {w : World} {b : Bk} (h : BkAt w b) {g : Nat} {o : Obj} (hg : w.heap[g]? = some o) (ho : o.isCells = false) : b.bp ≠ g ∧ b.x.pp ≠ g := by
  refine ⟨fun e => ?_, fun e => ?_⟩
  · have h6 := h.box
    unfold BBox at h6
    rw [e, hg] at h6
    cases h6
    cases ho
  · have h6 := h.po.box
    unfold PBox' at h6
    rw [e, hg] at h6
    cases h6
    cases ho
def RdK (w0 : World) (bp : Nat) (b0 : Bk) (K : KL) (W : World) : Prop := ∃ b, Rd w0 W bp K b0 b
theorem rd_keeper (w0 : World) (bp : Nat) (b0 : Bk) : Keeper w0.heap.size (RdK w0 bp b0) where
  size := fun ⟨_, r⟩ => r.ab.fr.size
  lies := fun ⟨_, r⟩ p hp => (r.ab.kp p hp).1
  less := fun ⟨b, r⟩ h => ⟨b, r.on (r.ab.less h)⟩
  new := fun {K W} o ⟨b, r⟩ => ⟨b, (r.quiet ((Fr.refl [] W).alloc o)).on ((r.ab.quiet ((Fr.refl [] W).alloc o)).add (heap_alloc_new W o) (r.ab.fresh (Nat.le_refl _)).2.1)⟩
  put := fun {K W g o} o' ⟨b, r⟩ hB ho hK => by
    have h1 := r.ab.kp _ (List.mem_cons_self ..)
    have aw := r.ab.bk.awayO h1.1 ho
    have a2 := (r.ab.less (K' := K) (fun p hp => List.mem_cons_of_mem _ hp)).put (fr_putObj W g o') aw.1 h1.2 aw.2 hB hK
    exact ⟨b, r.on (a2.add (heap_putObj_same W o' h1.1) h1.2)⟩
def cellOf (l : List UInt8) : List UInt8 := (Pg.cellsOf l).headD []
def rsOf (l : List UInt8) : Int := restOf (cellOf l)
theorem restOf_nn (c : List UInt8) : 0 ≤ restOf c ∧ restOf c ≤ 65535 := by
  have h1 := (byteAt c 0).toNat_lt
  have h2 := (byteAt c 1).toNat_lt
  unfold restOf
  omega
theorem lk_cell {n : Nat} {V : Pages} {q kind : Nat} (h : LkAt n V q kind) (hl : (V q).length = 512) : Pg.cellsOf (V q) = [cellOf (V q)] ∧ 2 < (cellOf (V q)).length ∧ (cellOf (V q)).length ≤ 1000 ∧ lkRight (Pg.nextOf (V q)) (rsOf (V q)) ((cellOf (V q)).length - 2) = true := by
  have h1 := h.ok
  unfold lkOk at h1
  split at h1
  · rename_i cell hc
    have e : cellOf (V q) = cell := by unfold cellOf; rw [hc]; rfl
    simp only [Bool.and_eq_true, decide_eq_true_eq] at h1
    unfold rsOf
    rw [e]
    exact ⟨hc, h1.1, cell_len hl hc, h1.2⟩
  · cases h1
def alOf (l : List UInt8) : Int := ((cellOf l).length - 2 : Nat) + rsOf l
section
variable {w0 w : World} {bp : Nat} {b : Bk} {K : List (Nat × Obj)} (h : Ab w0 w bp b K)
include h
theorem nload_lk' {V : Pages} (hv : Shows b.x V) (hp3 : 3 ≤ b.x.pages) (hp : b.x.pages ≤ 1000000) (hd : IsHd b.x.pages (V 0)) (k kind : Nat) (hn : LkAt b.x.pages V k kind) :
    Calls Tryz.prog 91 #[.pointer (some ⟨bp, 0, none⟩), .int .i64 (k : Int), .int .u8 (kind : Int)] w fun e w' => ∃ b' pb, e = .returned (.tuple #[.agg (lkV k kind (Pg.nextOf (V k)) (rsOf (V k)) (some ⟨pb, 2, none⟩) ((cellOf (V k)).length - 2) ((cellOf (V k)).length - 2)), .int .i64 0]) ∧ Hid (Rd w0 w' bp K b b' ∧ Blk w' pb (cellOf (V k)) ∧ w.heap.size ≤ pb ∧ pb ∉ b'.dp :: b'.x.own) := by
  refine (nload_lk h hv hp3 hp hd k kind hn).mono ?_
  rintro e w' ⟨b', cell, pb, rfl, P⟩
  have e : cellOf (V k) = cell := by unfold cellOf; rw [P.out.2.1]; rfl
  unfold rsOf
  rw [e]
  exact ⟨b', pb, rfl, hidI ⟨P.out.1, P.out.2.2.2⟩⟩
set_option maxHeartbeats 4000000 in
set_option maxRecDepth 100000 in
theorem nbehind_no {V : Pages} (hv : Shows b.x V) (hp3 : 3 ≤ b.x.pages) (hp : b.x.pages ≤ 1000000) (hd : IsHd b.x.pages (V 0)) (pg kind nx rest : Int) (ad : Option Addr) (n c : Nat) (hb : ∀ q : Nat, nx = q → LkAt b.x.pages V q 65 → alOf (V q) ≠ rest) :
    Calls Tryz.prog 92 #[.agg (lkV pg kind nx rest ad n c), .pointer (some ⟨bp, 0, none⟩)] w fun e w' => ∃ b', e = .returned (.tuple #[.agg noLink, .int .i64 4]) ∧ Hid (Rd w0 w' bp K b b') := by
  have HF := hidI (And.intro (h.fresh (Nat.le_refl _)).1 (h.fresh (Nat.le_refl _)).2.2)
  have A1 := (h.quiet ((Fr.refl [] w).alloc (.cells (lkV pg kind nx rest ad n c) 79))).add (heap_alloc_new w (.cells (lkV pg kind nx rest ad n c) 79)) (h.fresh (Nat.le_refl _)).2.1
  obtain ⟨z, hz⟩ : ∃ z, w.heap.size = z := ⟨_, rfl⟩
  obtain ⟨w1, hw1⟩ : ∃ w1, w.alloc (.cells (lkV pg kind nx rest ad n c) 79) = w1 := ⟨_, rfl⟩
  rw [hz, hw1] at A1
  have A2 := (A1.quiet ((Fr.refl [] w1).alloc (.cells noLink 79))).add (heap_alloc_new w1 (.cells noLink 79)) (A1.fresh (Nat.le_refl _)).2.1
  have hs1 : w1.heap.size = z + 1 := by rw [← hw1, World.size_alloc, hz]
  obtain ⟨w2, hw2⟩ : ∃ w2, w1.alloc (.cells noLink 79) = w2 := ⟨_, rfl⟩
  rw [hs1, hw2] at A2
  have hz2 := (A2.kp (z, .cells (lkV pg kind nx rest ad n c) 79) (by simp)).1
  have c2 : w2.cell? ⟨z, 2, none⟩ = some (.int .i64 nx) := cell_of_row w2 z 2 _ _ _ hz2
  have f2 := frozen_of_row w2 z 2 _ _ hz2
  have KZ := hidI (fun p (hp : p ∈ K) => (by have := (Array.getElem?_eq_some_iff.1 (h.kp p hp).1).1; omega : p.1 ≠ z + 1))
  -- what is left of a state, where the answer's block has been turned
  have fin : Hid (∀ (w3 w4 w5 : World) (b1 : Bk) (cs : Array Value), Rd w0 w3 bp ((z + 1, .cells noLink 79) :: (z, .cells (lkV pg kind nx rest ad n c) 79) :: K) b b1 → Fr [] w3 w4 → Fr [z + 1] w4 w5 → Rd w0 w5 bp K b b1) := hidI (fun w3 w4 w5 b1 cs r f4 f5 => by
    have a4 := r.ab.quiet f4
    have hz4 := (a4.kp (z + 1, .cells noLink 79) (by simp)).1
    have aw := a4.bk.away hz4 (by decide) (by decide) (by decide) (by decide)
    exact r.on ((a4.less (K' := K) (fun p hp => by simp [hp])).put f5 aw.1 aw.2.1 aw.2.2 (by have := HF.out.1; omega) KZ.out))
  by_cases hl : ∃ q : Nat, nx = q ∧ LkAt b.x.pages V q 65
  · obtain ⟨q, rfl, hk⟩ := hl
    have hne := hb q rfl hk
    have LX : Calls Tryz.prog 91 #[.pointer (some ⟨bp, 0, none⟩), .int .i64 (q : Int), .int .u8 65] w2 _ := nload_lk' A2 hv hp3 hp hd q 65 hk
    have hll := lk_cell hk (h.len hv hk.hi)
    have hnn := restOf_nn (cellOf (V q))
    unfold alOf at hne
    obtain ⟨rs, hrs⟩ : ∃ rs, rsOf (V q) = rs := ⟨_, rfl⟩
    obtain ⟨m, hm⟩ : ∃ m, (cellOf (V q)).length - 2 = m := ⟨_, rfl⟩
    obtain ⟨nx', hnx⟩ : ∃ x : Int, (Pg.nextOf (V q) : Int) = x := ⟨_, rfl⟩
    have hrb : 0 ≤ rs ∧ rs ≤ 65535 := by rw [← hrs]; exact hnn
    have hm1 : m ≤ 1000 := by omega
    rw [hrs, hm, hnx] at LX
    rw [hrs, hm] at hne
    have HNE : (((m : Int) + rs) != rest) = true := by rw [bne_iff_ne]; exact hne
    clear A1 A2 hv hp3 hp hd hb h hz2 hk hll hnn hne hrs hm hnx
    have HB := hidI (And.intro hrb hm1)
    clear hrb hm1
    unfold lkV at LX hw1 c2 fin ⊢
    unfold noLink at hw2
    go_enter Tryz.func92, Tryz.ntmps92
    go_upto_region 2 with (first
      | (go_at_call 91
         refine LX.mono ?_
         rintro e w3 ⟨b1, pb, rfl, P⟩
         have Z3 := heap_alloc_new w3 (.cells noLink 79)
         have hz3 := (P.out.1.ab.kp (z + 1, .cells noLink 79) (by simp [noLink])).1
         have HZ3 := hidI hz3
         have hl3 := (P.out.1.ab.kp (z, .cells #[.int .i64 pg, .int .u8 kind, .int .i64 (q : Int), .int .i64 rest, .slice ad n c] 79) (by simp)).1
         have HL3 := hidI hl3
         have F3 := hidI ((Fr.refl [] w3).alloc (.cells noLink 79))
         clear hz3 hl3
         unfold noLink at Z3)
      | (refine wp_storeL rfl _ _ rfl w3.heap.size _ (lkV q 65 nx' rs (some ⟨pb, 2, none⟩) m m) rfl rfl (lkV_one _ _ _ _ _ _ _) rfl rfl Z3 ?_
         intro w4 b4 f4
         have F4 : Hid (Fr [] w3 w4) := hidI (F3.out.then f4 (fun i hi hm => by
           have e := List.mem_singleton.1 hm
           omega))
         have hz4 := F4.out.same (by simp) HZ3.out
         have hl4 := F4.out.same (by simp) HL3.out
         have c4 : w4.cell? ⟨z, 3, none⟩ = some (.int .i64 rest) := cell_of_row w4 z 3 _ _ _ hl4
         have f4' := frozen_of_row w4 z 3 _ _ hl4
         have HL4 := hidI hl4
         have HZ4 := hidI hz4
         clear f4 hl4 hz4))
    go_cut [23] from 15 (fun s23 wx => s23 = .bool true ∧ Fr [] w4 wx)
    case first =>
      have SK : Hid (∀ w', Fr [] w4 w' → w'.heap[w3.heap.size]? = some (.cells (lkV q 65 nx' rs (some ⟨pb, 2, none⟩) m m) 79) ∧ w'.cell? ⟨z, 3, none⟩ = some (.int .i64 rest) ∧ w'.frozen? ⟨z, 3, none⟩ = false) := hidI (fun w' g => by
        have hl := g.same (by simp) HL4.out
        exact ⟨g.same (by simp) b4, cell_of_row w' z 3 _ _ _ hl, frozen_of_row w' z 3 _ _ hl⟩)
      have NA := fun W => nall_any W (q : Int) 65 nx' rs (some ⟨pb, 2, none⟩) m m HB.out.1.1 (by have := HB.out.1.2; omega) (by have := HB.out.2; omega)
      have gg : Fr [] w4 w4.drew := (Fr.refl [] w4).drew
      clear c4 f4' b4
      have sk := SK.out _ gg
      have d0 : w4.drew.cell? ⟨w3.heap.size, 0, none⟩ = some (.int .i64 (q : Int)) := cell_of_row _ _ 0 _ _ _ sk.1
      have d1 : w4.drew.cell? ⟨w3.heap.size, 1, none⟩ = some (.int .u8 65) := cell_of_row _ _ 1 _ _ _ sk.1
      have d2 : w4.drew.cell? ⟨w3.heap.size, 2, none⟩ = some (.int .i64 nx') := cell_of_row _ _ 2 _ _ _ sk.1
      have d3 : w4.drew.cell? ⟨w3.heap.size, 3, none⟩ = some (.int .i64 rs) := cell_of_row _ _ 3 _ _ _ sk.1
      have d4 : w4.drew.cell? ⟨w3.heap.size, 4, none⟩ = some (.slice (some ⟨pb, 2, none⟩) m m) := cell_of_row _ _ 4 _ _ _ sk.1
      have c4 := sk.2.1
      have f4' := sk.2.2
      clear sk
      go_region_with (first
        | (go_at_call 167
           refine (NA _).mono ?_
           rintro e w5 ⟨rfl, f5⟩
           have gg5 := gg.trans f5
           have sk := SK.out _ gg5
           have c5 := sk.2.1
           have f5' := sk.2.2
           clear sk c4 f4' d0 d1 d2 d3 d4))
      all_goals go_wp2_with fail
      all_goals go_meet
      all_goals first | exact ⟨rfl, gg5⟩ | exact ⟨rfl, gg5.drew⟩ | exact ⟨by rw [HNE], gg5⟩
    case rest =>
      obtain ⟨rfl, f5⟩ := hcut
      have hz5 := f5.same (by simp) HZ4.out
      go_wp2_with (first
        | (refine wp_storeL rfl _ _ rfl (z + 1) noLink noLink rfl rfl noLink_one rfl rfl hz5 ?_
           intro w6 b6 f6))
      exact bodyPost_ret (resLT rfl _ _ (z + 1) _ rfl rfl b6) rfl ⟨b1, rfl, hidI (fin.out w3 _ _ _ #[] P.out.1 (F4.out.trans f5) f6)⟩
  · have LX : Calls Tryz.prog 91 #[.pointer (some ⟨bp, 0, none⟩), .int .i64 nx, .int .u8 65] w2 _ := nload_no A2 hv hp3 hp hd nx 65 (fun q hq hk => hl ⟨q, hq, hk⟩)
    clear A1 A2 hv hp3 hp hd hb hl h hz2
    unfold lkV at *
    unfold noLink at hw2
    go_enter Tryz.func92, Tryz.ntmps92
    go_upto_region 2 with (first
      | (go_at_call 91
         refine LX.mono ?_
         rintro e w3 ⟨b1, rfl, P⟩
         have Z3 := heap_alloc_new w3 (.cells noLink 79)
         have hz3 := (P.out.ab.kp (z + 1, .cells noLink 79) (by simp [noLink])).1
         have HZ3 := hidI hz3
         have F3 := hidI ((Fr.refl [] w3).alloc (.cells noLink 79))
         clear hz3
         unfold noLink at Z3)
      | (refine wp_storeL rfl _ _ rfl w3.heap.size _ noLink rfl rfl noLink_one rfl rfl Z3 ?_
         intro w4 b4 f4
         have F4 : Hid (Fr [] w3 w4) := hidI (F3.out.then f4 (fun i hi hm => by
           have e := List.mem_singleton.1 hm
           omega))
         clear f4))
    go_quiet (fail)
    have b5 := (((Fr.refl [] w4).drewN nq).same (by simp) b4)
    have F5 := hidI (F4.out.drewN nq)
    have hz5 := F5.out.same (by simp) HZ3.out
    generalize w4.drewN nq = w5 at b5 F5 hz5 ⊢
    go_wp2_with (first
      | (refine wp_loadL rfl _ rfl w3.heap.size _ rfl rfl b5 ?_)
      | (refine wp_storeL rfl _ _ rfl (z + 1) noLink noLink rfl rfl noLink_one rfl rfl hz5 ?_
         intro w6 b6 f6))
    exact bodyPost_ret (resLT rfl _ _ (z + 1) _ rfl rfl b6) rfl ⟨b1, rfl, hidI (fin.out w3 _ _ _ #[] P.out F5.out f6)⟩
set_option maxHeartbeats 4000000 in
set_option maxRecDepth 100000 in
theorem nbehind_lk {V : Pages} (hv : Shows b.x V) (hp3 : 3 ≤ b.x.pages) (hp : b.x.pages ≤ 1000000) (hd : IsHd b.x.pages (V 0)) (pg kind rest : Int) (ad : Option Addr) (n c q : Nat) (hk : LkAt b.x.pages V q 65) (hb : alOf (V q) = rest) :
    Calls Tryz.prog 92 #[.agg (lkV pg kind q rest ad n c), .pointer (some ⟨bp, 0, none⟩)] w fun e w' => ∃ b' pb, e = .returned (.tuple #[.agg (lkV q 65 (Pg.nextOf (V q)) (rsOf (V q)) (some ⟨pb, 2, none⟩) ((cellOf (V q)).length - 2) ((cellOf (V q)).length - 2)), .int .i64 0]) ∧ Hid (Rd w0 w' bp K b b' ∧ Blk w' pb (cellOf (V q)) ∧ w.heap.size ≤ pb ∧ pb ∉ b'.dp :: b'.x.own) := by
  have HF := hidI (And.intro (h.fresh (Nat.le_refl _)).1 (h.fresh (Nat.le_refl _)).2.2)
  have A1 := (h.quiet ((Fr.refl [] w).alloc (.cells (lkV pg kind q rest ad n c) 79))).add (heap_alloc_new w (.cells (lkV pg kind q rest ad n c) 79)) (h.fresh (Nat.le_refl _)).2.1
  obtain ⟨z, hz⟩ : ∃ z, w.heap.size = z := ⟨_, rfl⟩
  obtain ⟨w1, hw1⟩ : ∃ w1, w.alloc (.cells (lkV pg kind q rest ad n c) 79) = w1 := ⟨_, rfl⟩
  rw [hz, hw1] at A1
  have A2 := (A1.quiet ((Fr.refl [] w1).alloc (.cells noLink 79))).add (heap_alloc_new w1 (.cells noLink 79)) (A1.fresh (Nat.le_refl _)).2.1
  have hs1 : w1.heap.size = z + 1 := by rw [← hw1, World.size_alloc, hz]
  obtain ⟨w2, hw2⟩ : ∃ w2, w1.alloc (.cells noLink 79) = w2 := ⟨_, rfl⟩
  rw [hs1, hw2] at A2
  have hz2 := (A2.kp (z, .cells (lkV pg kind q rest ad n c) 79) (by simp)).1
  have c2 : w2.cell? ⟨z, 2, none⟩ = some (.int .i64 (q : Int)) := cell_of_row w2 z 2 _ _ _ hz2
  have f2 := frozen_of_row w2 z 2 _ _ hz2
  have KZ := hidI (fun p (hp : p ∈ K) => (by have := (Array.getElem?_eq_some_iff.1 (h.kp p hp).1).1; omega : p.1 ≠ z + 1))
  -- what is left of a state, where the answer's block has been turned
  have fin : Hid (∀ (w3 w4 w5 : World) (b1 : Bk) (cs : Array Value), Rd w0 w3 bp ((z + 1, .cells noLink 79) :: (z, .cells (lkV pg kind q rest ad n c) 79) :: K) b b1 → Fr [] w3 w4 → Fr [z + 1] w4 w5 → Rd w0 w5 bp K b b1) := hidI (fun w3 w4 w5 b1 cs r f4 f5 => by
    have a4 := r.ab.quiet f4
    have hz4 := (a4.kp (z + 1, .cells noLink 79) (by simp)).1
    have aw := a4.bk.away hz4 (by decide) (by decide) (by decide) (by decide)
    exact r.on ((a4.less (K' := K) (fun p hp => by simp [hp])).put f5 aw.1 aw.2.1 aw.2.2 (by have := HF.out.1; omega) KZ.out))
  have hne := hb
  have LX : Calls Tryz.prog 91 #[.pointer (some ⟨bp, 0, none⟩), .int .i64 (q : Int), .int .u8 65] w2 _ := nload_lk' A2 hv hp3 hp hd q 65 hk
  have hll := lk_cell hk (h.len hv hk.hi)
  have hnn := restOf_nn (cellOf (V q))
  unfold alOf at hne
  obtain ⟨rs, hrs⟩ : ∃ rs, rsOf (V q) = rs := ⟨_, rfl⟩
  obtain ⟨m, hm⟩ : ∃ m, (cellOf (V q)).length - 2 = m := ⟨_, rfl⟩
  obtain ⟨nx', hnx⟩ : ∃ x : Int, (Pg.nextOf (V q) : Int) = x := ⟨_, rfl⟩
  have hrb : 0 ≤ rs ∧ rs ≤ 65535 := by rw [← hrs]; exact hnn
  have hm1 : m ≤ 1000 := by omega
  rw [hrs, hm, hnx] at LX ⊢
  rw [hrs, hm] at hne
  have HNE : (((m : Int) + rs) != rest) = false := by rw [hne]; exact bne_self_eq_false _
  clear A1 A2 hv hp3 hp hd hb h hz2 hk hll hnn hne hrs hm hnx
  have HB := hidI (And.intro hrb hm1)
  clear hrb hm1
  have HW2 : Hid (w2.heap.size = z + 2 ∧ w.heap.size = z) := hidI ⟨by rw [← hw2, World.size_alloc, hs1], hz⟩
  unfold lkV at LX hw1 c2 fin ⊢
  unfold noLink at hw2
  go_enter Tryz.func92, Tryz.ntmps92
  go_upto_region 2 with (first
    | (go_at_call 91
       refine LX.mono ?_
       rintro e w3 ⟨b1, pb, rfl, P⟩
       have Z3 := heap_alloc_new w3 (.cells noLink 79)
       have hz3 := (P.out.1.ab.kp (z + 1, .cells noLink 79) (by simp [noLink])).1
       have HZ3 := hidI hz3
       have hl3 := (P.out.1.ab.kp (z, .cells #[.int .i64 pg, .int .u8 kind, .int .i64 (q : Int), .int .i64 rest, .slice ad n c] 79) (by simp)).1
       have HL3 := hidI hl3
       have F3 := hidI ((Fr.refl [] w3).alloc (.cells noLink 79))
       clear hz3 hl3
       unfold noLink at Z3)
    | (refine wp_storeL rfl _ _ rfl w3.heap.size _ (lkV q 65 nx' rs (some ⟨pb, 2, none⟩) m m) rfl rfl (lkV_one _ _ _ _ _ _ _) rfl rfl Z3 ?_
       intro w4 b4 f4
       have F4 : Hid (Fr [] w3 w4) := hidI (F3.out.then f4 (fun i hi hm => by
         have e := List.mem_singleton.1 hm
         omega))
       have hz4 := F4.out.same (by simp) HZ3.out
       have hl4 := F4.out.same (by simp) HL3.out
       have c4 : w4.cell? ⟨z, 3, none⟩ = some (.int .i64 rest) := cell_of_row w4 z 3 _ _ _ hl4
       have f4' := frozen_of_row w4 z 3 _ _ hl4
       have HL4 := hidI hl4
       have HZ4 := hidI hz4
       clear f4 hl4 hz4))
  go_cut [23] from 15 (fun s23 wx => s23 = .bool false ∧ Fr [] w4 wx)
  case first =>
    have SK : Hid (∀ w', Fr [] w4 w' → w'.heap[w3.heap.size]? = some (.cells (lkV q 65 nx' rs (some ⟨pb, 2, none⟩) m m) 79) ∧ w'.cell? ⟨z, 3, none⟩ = some (.int .i64 rest) ∧ w'.frozen? ⟨z, 3, none⟩ = false) := hidI (fun w' g => by
      have hl := g.same (by simp) HL4.out
      exact ⟨g.same (by simp) b4, cell_of_row w' z 3 _ _ _ hl, frozen_of_row w' z 3 _ _ hl⟩)
    have NA := fun W => nall_any W (q : Int) 65 nx' rs (some ⟨pb, 2, none⟩) m m HB.out.1.1 (by have := HB.out.1.2; omega) (by have := HB.out.2; omega)
    have gg : Fr [] w4 w4.drew := (Fr.refl [] w4).drew
    clear c4 f4' b4
    have sk := SK.out _ gg
    have d0 : w4.drew.cell? ⟨w3.heap.size, 0, none⟩ = some (.int .i64 (q : Int)) := cell_of_row _ _ 0 _ _ _ sk.1
    have d1 : w4.drew.cell? ⟨w3.heap.size, 1, none⟩ = some (.int .u8 65) := cell_of_row _ _ 1 _ _ _ sk.1
    have d2 : w4.drew.cell? ⟨w3.heap.size, 2, none⟩ = some (.int .i64 nx') := cell_of_row _ _ 2 _ _ _ sk.1
    have d3 : w4.drew.cell? ⟨w3.heap.size, 3, none⟩ = some (.int .i64 rs) := cell_of_row _ _ 3 _ _ _ sk.1
    have d4 : w4.drew.cell? ⟨w3.heap.size, 4, none⟩ = some (.slice (some ⟨pb, 2, none⟩) m m) := cell_of_row _ _ 4 _ _ _ sk.1
    have c4 := sk.2.1
    have f4' := sk.2.2
    clear sk
    go_region_with (first
      | (go_at_call 167
         refine (NA _).mono ?_
         rintro e w5 ⟨rfl, f5⟩
         have gg5 := gg.trans f5
         have sk := SK.out _ gg5
         have c5 := sk.2.1
         have f5' := sk.2.2
         clear sk c4 f4' d0 d1 d2 d3 d4))
    all_goals go_wp2_with fail
    all_goals go_meet
    all_goals first | exact ⟨rfl, gg5⟩ | exact ⟨rfl, gg5.drew⟩ | exact ⟨by rw [HNE], gg5⟩
  case rest =>
    obtain ⟨rfl, f5⟩ := hcut
    have hz5 := f5.same (by simp) HZ4.out
    have b5 := f5.same (by simp) b4
    go_wp2_with (first
      | (refine wp_loadL rfl _ rfl w3.heap.size _ rfl rfl b5 ?_)
      | (refine wp_storeL rfl _ _ rfl (z + 1) noLink (lkV q 65 nx' rs (some ⟨pb, 2, none⟩) m m) rfl rfl (lkV_one _ _ _ _ _ _ _) rfl rfl hz5 ?_
         intro w6 b6 f6))
    exact bodyPost_ret (resLT rfl _ _ (z + 1) _ rfl rfl b6) rfl ⟨b1, pb, rfl, hidI ⟨fin.out w3 _ _ _ #[] P.out.1 (F4.out.trans f5) f6, ((P.out.2.1.kept (F4.out.trans f5) (by simp)).kept f6 (by
      have := P.out.2.2.1
      have h2 := (Array.getElem?_eq_some_iff.1 HZ4.out).1
      simp
      rintro rfl
      exact absurd HW2.out (by omega))), by
        have := P.out.2.2.1
        have := HW2.out
        omega, P.out.2.2.2⟩⟩
end
end Go.Proofs.YthajipigppndgaaGreat

