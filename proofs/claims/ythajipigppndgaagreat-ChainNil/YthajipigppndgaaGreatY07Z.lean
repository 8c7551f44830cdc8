/-
  A record's body taken off bytes: the program's readBody.
-/
import Derived.Test.YthajipigppndgaaGreatY06Z
namespace Go.Proofs.YthajipigppndgaaGreat
open Go.RowKit Go.Maps

def toI (n : Nat) : Int := wrap64 (n : Int)
theorem toI_small (n : Nat) (h : n < 9223372036854775808) : toI n = n := by unfold toI wrap64; omega
def zeroR (lsn turn : Int) : Rec := ⟨lsn, turn, 0, 0, 0, 0, 0, 0, [], []⟩
def zeroS : Spots := ⟨none, 0, none, 0⟩

/-- What a body's bytes say. -/
def bodyD (l : List UInt8) (lsn turn : Int) : Option Rec :=
  if l.length < 17 then none
  else if valL (l.take 1) = 1 then (spanD (l.drop 17) true).map fun q => ⟨lsn, turn, 1, toI (valL ((l.drop 1).take 8)), toI (valL ((l.drop 9).take 8)), 0, (q.1 : Int), (q.2.1 : Int), q.2.2.1, q.2.2.2⟩
  else if valL (l.take 1) = 2 then
    if l.length < 25 then none else (spanD (l.drop 25) false).map fun q => ⟨lsn, turn, 2, toI (valL ((l.drop 1).take 8)), toI (valL ((l.drop 9).take 8)), toI (valL ((l.drop 17).take 8)), (q.1 : Int), (q.2.1 : Int), q.2.2.1, q.2.2.2⟩
  else if l.length = 17 then some ⟨lsn, turn, valL (l.take 1), toI (valL ((l.drop 1).take 8)), toI (valL ((l.drop 9).take 8)), 0, 0, 0, [], []⟩ else none

theorem readSpan_way (w : World) (p : Nat) (r : Rec) (s : Spots) (hr : RBox w p r s) (g o n c : Nat) (l : List UInt8) (hl : l.length = n) (hc : n ≤ c) (hn : n ≤ 100000) (hb : BytesAt w (some ⟨g, o, none⟩) l) (hgp : g ≠ p) (hgl : g < w.heap.size) (wo : Bool) :
    Calls Tryz.prog 303 #[.pointer (some ⟨p, 6, none⟩), .slice (some ⟨g, o, none⟩) n c, .bool wo] w fun e w' => ∃ b, e = .returned (.bool b) ∧ Hid (SpanTo w p r l wo (.returned (.bool b)) w') := by
  refine (readSpan_any w p r s hr g o n c l hl hc hn hb hgp hgl wo).mono ?_
  rintro e w' h
  rcases h with ⟨h1, rfl, h2⟩ | ⟨q, s', h1, rfl, h2⟩
  · exact ⟨false, rfl, Or.inl ⟨h1, rfl, h2⟩⟩
  · exact ⟨true, rfl, Or.inr ⟨q, s', h1, rfl, h2⟩⟩

def BodyTo (w : World) (p : Nat) (lsn turn : Int) (l : List UInt8) (e : Ending) (w' : World) : Prop :=
  (bodyD l lsn turn = none ∧ e = .returned (.bool false) ∧ Fr [p] w w') ∨
  ∃ r' s', bodyD l lsn turn = some r' ∧ e = .returned (.bool true) ∧ RBox w' p r' s' ∧ NewSpots w w' r' s' ∧ Fr [p] w w'

theorem new_base {w0 w1 w : World} {r : Rec} {s : Spots} (h : NewSpots w1 w r s) (hs : w0.heap.size ≤ w1.heap.size) : NewSpots w0 w r s := by
  refine ⟨⟨h.o.nil, fun a e => ?_⟩, ⟨h.n.nil, fun a e => ?_⟩, h.c1, h.c2, h.ne⟩
  · obtain ⟨g, e1, h1, h2⟩ := h.o.at' a e
    exact ⟨g, e1, by omega, h2⟩
  · obtain ⟨g, e1, h1, h2⟩ := h.n.at' a e
    exact ⟨g, e1, by omega, h2⟩
theorem body_of_span {w w1 w' : World} {p : Nat} {lsn turn tx prev next bl of : Int} {k : Nat} {ol ne : List UInt8} {l m : List UInt8} {wo bb : Bool} {e : Ending}
    (hd : bodyD l lsn turn = (spanD m wo).map fun q => ⟨lsn, turn, k, tx, prev, next, (q.1 : Int), (q.2.1 : Int), q.2.2.1, q.2.2.2⟩) (f : Fr [p] w w1) (h : SpanTo w1 p ⟨lsn, turn, k, tx, prev, next, bl, of, ol, ne⟩ m wo (.returned (.bool bb)) w') (he : e = .returned (.bool bb)) : BodyTo w p lsn turn l e w' := by
  subst he
  rcases h with ⟨h1, h2, h3⟩ | ⟨q, s', h1, h2, h3, h4, h5⟩
  · exact Or.inl ⟨by rw [hd, h1]; rfl, h2, f.trans h3⟩
  · exact Or.inr ⟨_, s', by rw [hd, h1]; rfl, h2, h3, new_base h4 f.size, f.trans h5⟩
theorem new_none (w w' : World) (r : Rec) (h1 : r.old = []) (h2 : r.new = []) : NewSpots w w' r zeroS :=
  ⟨⟨fun _ => by rw [h1]; rfl, (fun _ e => nomatch e)⟩, ⟨fun _ => by rw [h2]; rfl, (fun _ e => nomatch e)⟩, by rw [h1]; rfl, by rw [h2]; rfl, (fun _ _ e => nomatch e)⟩

set_option maxHeartbeats 400000 in
set_option maxRecDepth 100000 in
theorem readBody_short (w : World) (p : Nat) (lsn turn : Int) (g o n c : Nat) (l : List UInt8) (hl : l.length = n) (h8 : n < 17) :
    Calls Tryz.prog 278 #[.pointer (some ⟨p, 0, none⟩), .slice (some ⟨g, o, none⟩) n c] w fun e w' => BodyTo w p lsn turn l e w' := by
  have HL : Hid (l.length = n) := hl
  clear hl
  have h8' : (n : Int) < 17 := by omega
  go_enter Tryz.func278, Tryz.ntmps278
  go_wp2_with fail
  go_ret
  exact Or.inl ⟨by unfold bodyD; rw [if_pos (by rw [HL.out]; exact h8)], rfl, (Fr.refl _ _).alloc _⟩

set_option maxHeartbeats 1000000 in
set_option maxRecDepth 100000 in
theorem readBody_one (w : World) (p : Nat) (lsn turn : Int) (hr : RBox w p (zeroR lsn turn) zeroS) (g o n c : Nat) (l : List UInt8) (hl : l.length = n) (hc : n ≤ c) (hn : n ≤ 100000) (hb : BytesAt w (some ⟨g, o, none⟩) l) (hgp : g ≠ p) (hgl : g < w.heap.size) (h8 : 17 ≤ n) (hK : valL (l.take 1) = 1)  :
    Calls Tryz.prog 278 #[.pointer (some ⟨p, 0, none⟩), .slice (some ⟨g, o, none⟩) n c] w fun e w' => BodyTo w p lsn turn l e w' := by
  have HL : Hid (l.length = n) := hl
  have HK : Hid (valL (l.take 1) = 1) := hK
  have h8' : ¬ (n : Int) < 17 := by omega
  have hp := hr.lt
  have hbx : SBox (w.alloc (.cells #[.slice (some ⟨g, o, none⟩) n c] 26)) w.heap.size (.slice (some ⟨g, o, none⟩) n c) := heap_alloc_new w _
  have f1 : Fr [p] w (w.alloc (.cells #[.slice (some ⟨g, o, none⟩) n c] 26)) := (Fr.refl [p] w).alloc _
  have r1 : RBox (w.alloc (.cells #[.slice (some ⟨g, o, none⟩) n c] 26)) p (zeroR lsn turn) zeroS := hr.kept ((Fr.refl [] w).alloc _) (by simp)
  have b1 : BytesAt (w.alloc (.cells #[.slice (some ⟨g, o, none⟩) n c] 26)) (some ⟨g, o, none⟩) l := hb.kept ((Fr.refl [] w).alloc _) (by simp)
  clear hl hK
  go_enter Tryz.func278, Tryz.ntmps278
  go_wp2_with fail
  generalize w.alloc (.cells #[.slice (some ⟨g, o, none⟩) n c] 26) = w1 at hbx f1 r1 b1 ⊢
  have hgb : g ≠ w.heap.size := by omega
  have hpb : p ≠ w.heap.size := by omega
  obtain ⟨B, HB⟩ : ∃ B, Hid (w.heap.size = B) := ⟨_, rfl⟩
  rw [HB.out] at hbx hgb hpb ⊢
  refine (take8_any _ B g o n c l hbx HL.out (by omega) hc b1 hgb).mono ?_
  rintro e w2 ⟨rfl, o2, hbx2, b2, f2⟩
  have r2 := r1.kept f2 (by simpa using hpb)
  have F2 := f1.then f2 (fun i hi hm => by simp at hm; have := HB.out; omega)
  clear hbx f1 r1 b1 f2
  have u2 := r2.c2
  have z2 := r2.fz 2
  rw [HK.out]
  go_wp2_with fail
  have r3 : RBox (w2.setCell ⟨p, 2, none⟩ (.int .u8 1)) p { zeroR lsn turn with kind := 1 } zeroS := r2.s2 1
  have f3 := fr_set w2 p 2 (.int .u8 1)
  have hbx3 := hbx2.kept f3 (by simpa using hpb.symm)
  have b3 := b2.kept f3 (fun b' off e => by cases e; simpa using hgp)
  have F3 := F2.trans f3
  clear u2 z2 r2 hbx2 b2 F2 f3
  generalize w2.setCell ⟨p, 2, none⟩ (.int .u8 1) = w3 at r3 hbx3 b3 F3 ⊢
  refine (take64_any _ B g o2 (n - 1) (c - 1) (l.drop 1) hbx3 (by simp only [List.length_drop, HL.out]) (by omega) (by omega) b3 hgb).mono ?_
  rintro e w4 ⟨rfl, o4, hbx4, b4, f4⟩
  have r4 := r3.kept f4 (by simpa using hpb)
  have F4 := F3.then f4 (fun i hi hm => by simp at hm; have := HB.out; omega)
  clear hbx3 r3 b3 f4 F3
  have ua := r4.c3
  have za := r4.fz 3
  obtain ⟨TX, HTX⟩ : ∃ TX, Hid (valL ((l.drop 1).take 8) = TX) := ⟨_, rfl⟩
  rw [HTX.out]
  go_wp2_with fail
  have r5 := r4.s3 (wrap64 (TX : Int))
  have f5 := fr_set w4 p 3 (.int .i64 (wrap64 (TX : Int)))
  have hbx5 := hbx4.kept f5 (by simpa using hpb.symm)
  have b5 := b4.kept f5 (fun b' off e => by cases e; simpa using hgp)
  have F5 := F4.trans f5
  clear ua za r4 hbx4 b4 F4 f5
  generalize w4.setCell ⟨p, 3, none⟩ (.int .i64 (wrap64 (TX : Int))) = w5 at r5 hbx5 b5 F5 ⊢
  refine (take64_any _ B g o4 (n - 1 - 8) (c - 1 - 8) ((l.drop 1).drop 8) hbx5 (by simp only [List.length_drop, HL.out]) (by omega) (by omega) b5 hgb).mono ?_
  rintro e w6 ⟨rfl, o6, hbx6, b6, f6⟩
  have r6 := r5.kept f6 (by simpa using hpb)
  have F6 := F5.then f6 (fun i hi hm => by simp at hm; have := HB.out; omega)
  clear hbx5 r5 b5 f6 F5
  have ua := r6.c4
  have za := r6.fz 4
  obtain ⟨PV, HPV⟩ : ∃ PV, Hid (valL (((l.drop 1).drop 8).take 8) = PV) := ⟨_, rfl⟩
  rw [HPV.out]
  have r7 := r6.s4 (wrap64 (PV : Int))
  have f7 := fr_set w6 p 4 (.int .i64 (wrap64 (PV : Int)))
  have hbx7 := hbx6.kept f7 (by simpa using hpb.symm)
  have b7 := b6.kept f7 (fun b' off e => by cases e; simpa using hgp)
  have F7 := F6.trans f7
  have ux := hbx7.cell
  have u2 : (w6.setCell ⟨p, 4, none⟩ (.int .i64 (wrap64 (PV : Int)))).cell? ⟨p, 2, none⟩ = some (.int .u8 1) := r7.c2
  have hlen : ((((l.drop 1).drop 8).drop 8)).length = n - 1 - 8 - 8 := by simp only [List.length_drop, HL.out]
  have e17 : (((l.drop 1).drop 8).drop 8) = l.drop 17 := by simp only [List.drop_drop]
  have hD : bodyD l lsn turn = (spanD (l.drop 17) true).map fun q => ⟨lsn, turn, 1, toI TX, toI PV, 0, (q.1 : Int), (q.2.1 : Int), q.2.2.1, q.2.2.2⟩ := by
    unfold bodyD
    rw [if_neg (by rw [HL.out]; omega), HK.out, if_pos rfl, HTX.out]
    rw [show List.drop 9 l = (l.drop 1).drop 8 by rw [List.drop_drop], HPV.out]
  have HD := hidI hD
  clear hD
  rw [e17] at hlen b7
  clear e17
  go_wp2_with fail
  have hsz : w.heap.size ≤ w6.heap.size := F6.size
  have hgl2 : g < (w6.setCell ⟨p, 4, none⟩ (.int .i64 (wrap64 (PV : Int)))).drew.heap.size := by simp; omega
  clear ua za r6 hbx6 b6 F6 f7
  generalize w6.setCell ⟨p, 4, none⟩ (.int .i64 (wrap64 (PV : Int))) = w7 at r7 hbx7 b7 F7 ux u2 hgl2 ⊢
  have HF := hidI F7
  have HR := hidI r7
  have HBB := hidI b7
  clear F7 r7 b7 u2
  go_region_with (go_at_call 303; refine (readSpan_way _ p _ _ (HR.out.kept (Fr.refl [] w7).drew (by simp)) g o6 (n - 1 - 8 - 8) (c - 1 - 8 - 8) (l.drop 17) hlen (by omega) (by omega) (HBB.out.kept (Fr.refl [] w7).drew (by simp)) hgp hgl2 true).mono ?_; rintro e w10 ⟨bb, rfl, HSS⟩)
  go_wp2_with fail
  go_ret
  exact body_of_span HD.out HF.out.drew HSS.out rfl

set_option maxHeartbeats 1000000 in
set_option maxRecDepth 100000 in
theorem readBody_two (w : World) (p : Nat) (lsn turn : Int) (hr : RBox w p (zeroR lsn turn) zeroS) (g o n c : Nat) (l : List UInt8) (hl : l.length = n) (hc : n ≤ c) (hn : n ≤ 100000) (hb : BytesAt w (some ⟨g, o, none⟩) l) (hgp : g ≠ p) (hgl : g < w.heap.size) (h8 : 17 ≤ n) (hK : valL (l.take 1) = 2)  :
    Calls Tryz.prog 278 #[.pointer (some ⟨p, 0, none⟩), .slice (some ⟨g, o, none⟩) n c] w fun e w' => BodyTo w p lsn turn l e w' := by
  have HL : Hid (l.length = n) := hl
  have HK : Hid (valL (l.take 1) = 2) := hK
  have h8' : ¬ (n : Int) < 17 := by omega
  have hp := hr.lt
  have hbx : SBox (w.alloc (.cells #[.slice (some ⟨g, o, none⟩) n c] 26)) w.heap.size (.slice (some ⟨g, o, none⟩) n c) := heap_alloc_new w _
  have f1 : Fr [p] w (w.alloc (.cells #[.slice (some ⟨g, o, none⟩) n c] 26)) := (Fr.refl [p] w).alloc _
  have r1 : RBox (w.alloc (.cells #[.slice (some ⟨g, o, none⟩) n c] 26)) p (zeroR lsn turn) zeroS := hr.kept ((Fr.refl [] w).alloc _) (by simp)
  have b1 : BytesAt (w.alloc (.cells #[.slice (some ⟨g, o, none⟩) n c] 26)) (some ⟨g, o, none⟩) l := hb.kept ((Fr.refl [] w).alloc _) (by simp)
  clear hl hK
  go_enter Tryz.func278, Tryz.ntmps278
  go_wp2_with fail
  generalize w.alloc (.cells #[.slice (some ⟨g, o, none⟩) n c] 26) = w1 at hbx f1 r1 b1 ⊢
  have hgb : g ≠ w.heap.size := by omega
  have hpb : p ≠ w.heap.size := by omega
  obtain ⟨B, HB⟩ : ∃ B, Hid (w.heap.size = B) := ⟨_, rfl⟩
  rw [HB.out] at hbx hgb hpb ⊢
  refine (take8_any _ B g o n c l hbx HL.out (by omega) hc b1 hgb).mono ?_
  rintro e w2 ⟨rfl, o2, hbx2, b2, f2⟩
  have r2 := r1.kept f2 (by simpa using hpb)
  have F2 := f1.then f2 (fun i hi hm => by simp at hm; have := HB.out; omega)
  clear hbx f1 r1 b1 f2
  have u2 := r2.c2
  have z2 := r2.fz 2
  rw [HK.out]
  go_wp2_with fail
  have r3 : RBox (w2.setCell ⟨p, 2, none⟩ (.int .u8 2)) p { zeroR lsn turn with kind := 2 } zeroS := r2.s2 2
  have f3 := fr_set w2 p 2 (.int .u8 2)
  have hbx3 := hbx2.kept f3 (by simpa using hpb.symm)
  have b3 := b2.kept f3 (fun b' off e => by cases e; simpa using hgp)
  have F3 := F2.trans f3
  clear u2 z2 r2 hbx2 b2 F2 f3
  generalize w2.setCell ⟨p, 2, none⟩ (.int .u8 2) = w3 at r3 hbx3 b3 F3 ⊢
  refine (take64_any _ B g o2 (n - 1) (c - 1) (l.drop 1) hbx3 (by simp only [List.length_drop, HL.out]) (by omega) (by omega) b3 hgb).mono ?_
  rintro e w4 ⟨rfl, o4, hbx4, b4, f4⟩
  have r4 := r3.kept f4 (by simpa using hpb)
  have F4 := F3.then f4 (fun i hi hm => by simp at hm; have := HB.out; omega)
  clear hbx3 r3 b3 f4 F3
  have ua := r4.c3
  have za := r4.fz 3
  obtain ⟨TX, HTX⟩ : ∃ TX, Hid (valL ((l.drop 1).take 8) = TX) := ⟨_, rfl⟩
  rw [HTX.out]
  go_wp2_with fail
  have r5 := r4.s3 (wrap64 (TX : Int))
  have f5 := fr_set w4 p 3 (.int .i64 (wrap64 (TX : Int)))
  have hbx5 := hbx4.kept f5 (by simpa using hpb.symm)
  have b5 := b4.kept f5 (fun b' off e => by cases e; simpa using hgp)
  have F5 := F4.trans f5
  clear ua za r4 hbx4 b4 F4 f5
  generalize w4.setCell ⟨p, 3, none⟩ (.int .i64 (wrap64 (TX : Int))) = w5 at r5 hbx5 b5 F5 ⊢
  refine (take64_any _ B g o4 (n - 1 - 8) (c - 1 - 8) ((l.drop 1).drop 8) hbx5 (by simp only [List.length_drop, HL.out]) (by omega) (by omega) b5 hgb).mono ?_
  rintro e w6 ⟨rfl, o6, hbx6, b6, f6⟩
  have r6 := r5.kept f6 (by simpa using hpb)
  have F6 := F5.then f6 (fun i hi hm => by simp at hm; have := HB.out; omega)
  clear hbx5 r5 b5 f6 F5
  have ua := r6.c4
  have za := r6.fz 4
  obtain ⟨PV, HPV⟩ : ∃ PV, Hid (valL (((l.drop 1).drop 8).take 8) = PV) := ⟨_, rfl⟩
  rw [HPV.out]
  have r7 := r6.s4 (wrap64 (PV : Int))
  have f7 := fr_set w6 p 4 (.int .i64 (wrap64 (PV : Int)))
  have hbx7 := hbx6.kept f7 (by simpa using hpb.symm)
  have b7 := b6.kept f7 (fun b' off e => by cases e; simpa using hgp)
  have F7 := F6.trans f7
  have ux := hbx7.cell
  have u2 : (w6.setCell ⟨p, 4, none⟩ (.int .i64 (wrap64 (PV : Int)))).cell? ⟨p, 2, none⟩ = some (.int .u8 2) := r7.c2
  have e17 : (((l.drop 1).drop 8).drop 8) = l.drop 17 := by simp only [List.drop_drop]
  have hD : bodyD l lsn turn = if n < 25 then none else (spanD (l.drop 25) false).map fun q => ⟨lsn, turn, 2, toI TX, toI PV, toI (valL ((l.drop 17).take 8)), (q.1 : Int), (q.2.1 : Int), q.2.2.1, q.2.2.2⟩ := by
    unfold bodyD
    rw [if_neg (by rw [HL.out]; omega), HK.out, if_neg (by omega), if_pos rfl, HL.out, HTX.out]
    rw [show List.drop 9 l = (l.drop 1).drop 8 by rw [List.drop_drop], HPV.out]
  have HD := hidI hD
  clear hD
  rw [e17] at b7
  clear e17
  by_cases h25 : n < 25
  · have q25 : ((n - 1 - 8 - 8 : Nat) : Int) < 8 := by omega
    go_wp2_with fail
    go_ret
    exact Or.inl ⟨by rw [HD.out, if_pos h25], rfl, F7⟩
  · have q25 : ¬ ((n - 1 - 8 - 8 : Nat) : Int) < 8 := by omega
    go_wp2_with fail
    have hsz : w.heap.size ≤ w6.heap.size := F6.size
    clear ua za r6 hbx6 b6 F6 f7
    generalize w6.setCell ⟨p, 4, none⟩ (.int .i64 (wrap64 (PV : Int))) = w7 at r7 hbx7 b7 F7 ux u2 ⊢
    refine (take64_any _ B g o6 (n - 1 - 8 - 8) (c - 1 - 8 - 8) (l.drop 17) hbx7 (by rw [List.length_drop, HL.out]; omega) (by omega) (by omega) b7 hgb).mono ?_
    rintro e w8 ⟨rfl, o8, hbx8, b8, f8⟩
    have r8 := r7.kept f8 (by simpa using hpb)
    have F8 := F7.then f8 (fun i hi hm => by simp at hm; have := HB.out; omega)
    clear ux u2 hbx7 r7 b7 f8 F7
    have ua := r8.c5
    have za := r8.fz 5
    obtain ⟨NX, HNX⟩ : ∃ NX, Hid (valL ((l.drop 17).take 8) = NX) := ⟨_, rfl⟩
    rw [HNX.out]
    go_wp2_with fail
    have r9 := r8.s5 (wrap64 (NX : Int))
    have f9 := fr_set w8 p 5 (.int .i64 (wrap64 (NX : Int)))
    have hbx9 := hbx8.kept f9 (by simpa using hpb.symm)
    have b9 := b8.kept f9 (fun b' off e => by cases e; simpa using hgp)
    have F9 := F8.trans f9
    have ux := hbx9.cell
    have hgl2 : g < (w8.setCell ⟨p, 5, none⟩ (.int .i64 (wrap64 (NX : Int)))).drew.heap.size := by have h := F8.size; simp; omega
    clear ua za r8 hbx8 b8 F8 f9
    generalize w8.setCell ⟨p, 5, none⟩ (.int .i64 (wrap64 (NX : Int))) = w9 at r9 hbx9 b9 F9 ux hgl2 ⊢
    rw [List.drop_drop] at b9
    have hlen : (l.drop 25).length = n - 1 - 8 - 8 - 8 := by rw [List.length_drop, HL.out]; omega
    have HF := hidI F9
    have HR := hidI r9
    have HBB : Hid (BytesAt w9 (some ⟨g, o8, none⟩) (l.drop 25)) := hidI b9
    have HD2 : Hid (bodyD l lsn turn = (spanD (l.drop 25) false).map fun q => ⟨lsn, turn, 2, toI TX, toI PV, toI NX, (q.1 : Int), (q.2.1 : Int), q.2.2.1, q.2.2.2⟩) := hidI (by rw [HD.out, if_neg h25, HNX.out])
    clear F9 r9 b9 q25
    go_region_with (go_at_call 303; refine (readSpan_way _ p _ _ (HR.out.kept (Fr.refl [] w9).drew (by simp)) g o8 (n - 1 - 8 - 8 - 8) (c - 1 - 8 - 8 - 8) (l.drop 25) hlen (by omega) (by omega) (HBB.out.kept (Fr.refl [] w9).drew (by simp)) hgp hgl2 false).mono ?_; rintro e w10 ⟨bb, rfl, HSS⟩)
    go_wp2_with fail
    go_ret
    exact body_of_span HD2.out HF.out.drew HSS.out rfl

set_option maxHeartbeats 1000000 in
set_option maxRecDepth 100000 in
theorem readBody_other (w : World) (p : Nat) (lsn turn : Int) (hr : RBox w p (zeroR lsn turn) zeroS) (g o n c : Nat) (l : List UInt8) (hl : l.length = n) (hc : n ≤ c) (hn : n ≤ 100000) (hb : BytesAt w (some ⟨g, o, none⟩) l) (hgp : g ≠ p) (hgl : g < w.heap.size) (h8 : 17 ≤ n) (K : Nat) (hK : valL (l.take 1) = K) (hk1 : ¬ K = 1) (hk2 : ¬ K = 2) (k1 : ((K : Int) == 1) = false) (k2 : ((K : Int) == 2) = false) :
    Calls Tryz.prog 278 #[.pointer (some ⟨p, 0, none⟩), .slice (some ⟨g, o, none⟩) n c] w fun e w' => BodyTo w p lsn turn l e w' := by
  have HL : Hid (l.length = n) := hl
  have HK : Hid (valL (l.take 1) = K) := hK
  have hK256 : (K : Int) < 256 := by
    have h := valL_lt (l.take 1)
    rw [List.length_take, hl, Nat.min_eq_left (by omega), hK] at h
    simp at h
    omega
  have h8' : ¬ (n : Int) < 17 := by omega
  have hp := hr.lt
  have hbx : SBox (w.alloc (.cells #[.slice (some ⟨g, o, none⟩) n c] 26)) w.heap.size (.slice (some ⟨g, o, none⟩) n c) := heap_alloc_new w _
  have f1 : Fr [p] w (w.alloc (.cells #[.slice (some ⟨g, o, none⟩) n c] 26)) := (Fr.refl [p] w).alloc _
  have r1 : RBox (w.alloc (.cells #[.slice (some ⟨g, o, none⟩) n c] 26)) p (zeroR lsn turn) zeroS := hr.kept ((Fr.refl [] w).alloc _) (by simp)
  have b1 : BytesAt (w.alloc (.cells #[.slice (some ⟨g, o, none⟩) n c] 26)) (some ⟨g, o, none⟩) l := hb.kept ((Fr.refl [] w).alloc _) (by simp)
  clear hl hK
  go_enter Tryz.func278, Tryz.ntmps278
  go_wp2_with fail
  generalize w.alloc (.cells #[.slice (some ⟨g, o, none⟩) n c] 26) = w1 at hbx f1 r1 b1 ⊢
  have hgb : g ≠ w.heap.size := by omega
  have hpb : p ≠ w.heap.size := by omega
  obtain ⟨B, HB⟩ : ∃ B, Hid (w.heap.size = B) := ⟨_, rfl⟩
  rw [HB.out] at hbx hgb hpb ⊢
  refine (take8_any _ B g o n c l hbx HL.out (by omega) hc b1 hgb).mono ?_
  rintro e w2 ⟨rfl, o2, hbx2, b2, f2⟩
  have r2 := r1.kept f2 (by simpa using hpb)
  have F2 := f1.then f2 (fun i hi hm => by simp at hm; have := HB.out; omega)
  clear hbx f1 r1 b1 f2
  have u2 := r2.c2
  have z2 := r2.fz 2
  rw [HK.out]
  go_wp2_with fail
  have r3 : RBox (w2.setCell ⟨p, 2, none⟩ (.int .u8 (K : Int))) p { zeroR lsn turn with kind := K } zeroS := r2.s2 K
  have f3 := fr_set w2 p 2 (.int .u8 (K : Int))
  have hbx3 := hbx2.kept f3 (by simpa using hpb.symm)
  have b3 := b2.kept f3 (fun b' off e => by cases e; simpa using hgp)
  have F3 := F2.trans f3
  clear u2 z2 r2 hbx2 b2 F2 f3
  generalize w2.setCell ⟨p, 2, none⟩ (.int .u8 (K : Int)) = w3 at r3 hbx3 b3 F3 ⊢
  refine (take64_any _ B g o2 (n - 1) (c - 1) (l.drop 1) hbx3 (by simp only [List.length_drop, HL.out]) (by omega) (by omega) b3 hgb).mono ?_
  rintro e w4 ⟨rfl, o4, hbx4, b4, f4⟩
  have r4 := r3.kept f4 (by simpa using hpb)
  have F4 := F3.then f4 (fun i hi hm => by simp at hm; have := HB.out; omega)
  clear hbx3 r3 b3 f4 F3
  have ua := r4.c3
  have za := r4.fz 3
  obtain ⟨TX, HTX⟩ : ∃ TX, Hid (valL ((l.drop 1).take 8) = TX) := ⟨_, rfl⟩
  rw [HTX.out]
  go_wp2_with fail
  have r5 := r4.s3 (wrap64 (TX : Int))
  have f5 := fr_set w4 p 3 (.int .i64 (wrap64 (TX : Int)))
  have hbx5 := hbx4.kept f5 (by simpa using hpb.symm)
  have b5 := b4.kept f5 (fun b' off e => by cases e; simpa using hgp)
  have F5 := F4.trans f5
  clear ua za r4 hbx4 b4 F4 f5
  generalize w4.setCell ⟨p, 3, none⟩ (.int .i64 (wrap64 (TX : Int))) = w5 at r5 hbx5 b5 F5 ⊢
  refine (take64_any _ B g o4 (n - 1 - 8) (c - 1 - 8) ((l.drop 1).drop 8) hbx5 (by simp only [List.length_drop, HL.out]) (by omega) (by omega) b5 hgb).mono ?_
  rintro e w6 ⟨rfl, o6, hbx6, b6, f6⟩
  have r6 := r5.kept f6 (by simpa using hpb)
  have F6 := F5.then f6 (fun i hi hm => by simp at hm; have := HB.out; omega)
  clear hbx5 r5 b5 f6 F5
  have ua := r6.c4
  have za := r6.fz 4
  obtain ⟨PV, HPV⟩ : ∃ PV, Hid (valL (((l.drop 1).drop 8).take 8) = PV) := ⟨_, rfl⟩
  rw [HPV.out]
  have r7 := r6.s4 (wrap64 (PV : Int))
  have f7 := fr_set w6 p 4 (.int .i64 (wrap64 (PV : Int)))
  have hbx7 := hbx6.kept f7 (by simpa using hpb.symm)
  have b7 := b6.kept f7 (fun b' off e => by cases e; simpa using hgp)
  have F7 := F6.trans f7
  have ux := hbx7.cell
  have u2 : (w6.setCell ⟨p, 4, none⟩ (.int .i64 (wrap64 (PV : Int)))).cell? ⟨p, 2, none⟩ = some (.int .u8 (K : Int)) := r7.c2
  have hD : bodyD l lsn turn = if n = 17 then some ⟨lsn, turn, K, toI TX, toI PV, 0, 0, 0, [], []⟩ else none := by
    unfold bodyD
    rw [if_neg (by rw [HL.out]; omega), HK.out, if_neg hk1, if_neg hk2, HL.out, HTX.out]
    rw [show List.drop 9 l = (l.drop 1).drop 8 by rw [List.drop_drop], HPV.out]
  have HD := hidI hD
  clear hD
  by_cases hn17 : n = 17
  · have q17 : (((n - 1 - 8 - 8 : Nat) : Int) == 0) = true := by rw [beq_iff_eq]; omega
    have HN17 := hidI hn17
    clear hn17
    go_wp2_with fail
    go_ret
    exact Or.inr ⟨_, zeroS, by rw [HD.out, if_pos HN17.out]; rfl, rfl, r7, new_none _ _ _ rfl rfl, F7⟩
  · have q17 : (((n - 1 - 8 - 8 : Nat) : Int) == 0) = false := by rw [beq_eq_false_iff_ne]; omega
    go_wp2_with fail
    go_ret
    exact Or.inl ⟨by rw [HD.out, if_neg hn17], rfl, F7⟩


theorem readBody_any (w : World) (p : Nat) (lsn turn : Int) (hr : RBox w p (zeroR lsn turn) zeroS) (g o n c : Nat) (l : List UInt8) (hl : l.length = n) (hc : n ≤ c) (hn : n ≤ 100000) (hb : BytesAt w (some ⟨g, o, none⟩) l) (hgp : g ≠ p) (hgl : g < w.heap.size) :
    Calls Tryz.prog 278 #[.pointer (some ⟨p, 0, none⟩), .slice (some ⟨g, o, none⟩) n c] w fun e w' => BodyTo w p lsn turn l e w' := by
  by_cases h : n < 17
  · exact readBody_short w p lsn turn g o n c l hl h
  by_cases k1 : valL (l.take 1) = 1
  · exact readBody_one w p lsn turn hr g o n c l hl hc hn hb hgp hgl (by omega) k1
  by_cases k2 : valL (l.take 1) = 2
  · exact readBody_two w p lsn turn hr g o n c l hl hc hn hb hgp hgl (by omega) k2
  exact readBody_other w p lsn turn hr g o n c l hl hc hn hb hgp hgl (by omega) _ rfl k1 k2 (by rw [beq_eq_false_iff_ne]; omega) (by rw [beq_eq_false_iff_ne]; omega)

end Go.Proofs.YthajipigppndgaaGreat

