/-
  LogBytes: a record's bytes, and what bytes say, as the document tells them.
-/
import Derived.Test.YticmjdblcomecaaQRefG2
import Derived.Test.YticmjdblcomecaaQAwake
namespace Go.Proofs.Yticmjdblcomecaa
open Go.RowKit Go.Maps

/-- What Put answers. -/
def putL (r : Rec) : List UInt8 := if rightB r = true then encL r else []
def putE (r : Rec) : Int := if rightB r = true then 0 else 4
theorem put_any (w : World) (r : Rec) (s : Spots) (hs : SpotsAt w r s) (hn : r.new.length ≤ 1000000) :
    Calls Try.prog 8 #[.agg (recV r s)] w fun e w' => ∃ ad c, e = .returned (.tuple #[.slice ad (putL r).length c, .int .i64 (putE r)]) ∧ BytesAt w' ad (putL r) ∧ Fr [] w w' := by
  unfold putL putE
  by_cases h : rightB r = true
  · refine (put_ok w r s hs h).mono ?_
    rintro e w' ⟨v, rfl, ow⟩
    obtain ⟨ad, c, rfl, hb, -, -⟩ := own_sl ow rfl
    rw [if_pos h, if_pos h]
    exact ⟨ad, c, rfl, hb, ow.2⟩
  · refine (put_no w r s hn (by simpa using h)).mono ?_
    rintro e w' ⟨rfl, f⟩
    rw [if_neg h, if_neg h]
    exact ⟨none, 0, rfl, BytesAt.nil _ _, f⟩
theorem rPut_any (w : World) (r : Rec) (s : Spots) (hs : SpotsAt w r s) (hn : r.new.length ≤ 1000000) :
    Calls Try.prog 9 #[.agg (recV r s)] w fun e w' => ∃ ad c, e = .returned (.tuple #[.slice ad (putL r).length c, .int .i64 (putE r)]) ∧ BytesAt w' ad (putL r) ∧ Fr [] w w' := by
  unfold putL putE
  by_cases h : rightB r = true
  · refine (rPut_ok w r s hs h).mono ?_
    rintro e w' ⟨v, rfl, ow⟩
    obtain ⟨ad, c, rfl, hb, -, -⟩ := own_sl ow rfl
    rw [if_pos h, if_pos h]
    exact ⟨ad, c, rfl, hb, ow.2⟩
  · refine (rPut_no w r s hn (by simpa using h)).mono ?_
    rintro e w' ⟨rfl, f⟩
    rw [if_neg h, if_neg h]
    exact ⟨none, 0, rfl, BytesAt.nil _ _, f⟩
theorem putL_len (r : Rec) : (putL r).length ≤ 1000000 := by
  unfold putL
  split
  · rename_i h
    have := body_bounds h
    rw [encL_length]
    omega
  · simp

/-- What Get answers. -/
def gotR (l : List UInt8) : Rec := match decR l with | some (r, _) => r | none => zeroR 0 0
def gotN (l : List UInt8) : Int := match decR l with | some (_, n) => (n : Int) | none => 0
def gotE (l : List UInt8) : Int := match decR l with | some _ => 0 | none => 4
theorem got_of {w w' : World} {l : List UInt8} {e : Ending} (h : GetToW w l e w') :
    ∃ s, e = .returned (.tuple #[.agg (recV (gotR l) s), .int .i64 (gotN l), .int .i64 (gotE l)]) ∧ SpotsAt w' (gotR l) s ∧ Fr [] w w' := by
  unfold gotR gotN gotE
  rcases h with ⟨h1, h2, h3⟩ | ⟨r, n, s, h1, h2, h3, h4⟩
  · rw [h1]
    exact ⟨zeroS, h2, spots_none _ _ rfl rfl, h3⟩
  · rw [h1]
    exact ⟨s, h2, h3, h4⟩
theorem got_len (l : List UInt8) : (gotR l).old.length ≤ 1000000 ∧ (gotR l).new.length ≤ 1000000 := by
  unfold gotR
  cases hd : decR l with
  | none => exact ⟨by simp [zeroR], by simp [zeroR]⟩
  | some q =>
    obtain ⟨r, m⟩ := q
    obtain ⟨hr, -⟩ := dec_inv hd
    dsimp only
    rcases right_kinds hr with ⟨hk, hn, b0, b1, o0, n0, o1, on⟩ | ⟨hk, hn, b0, b1, o0, n0, o1, on⟩ | ⟨hk, hn, b0, o0, on, nn⟩ <;> omega
theorem rGet_any (w : World) (ad : Option Addr) (n c : Nat) (l : List UInt8) (hl : l.length = n) (hc : n ≤ c) (hn : n ≤ 100000) (hb : BytesAt w ad l) :
    Calls Try.prog 12 #[.slice ad n c] w fun e w' => GetToW w l e w' := by
  by_cases h35 : n < 35
  · exact (rGet_short w ad n c l hl h35).mono fun _ _ h => h.weak
  · by_cases hbad : sayN l < 17 ∨ l.length < 18 + sayN l
    · exact (rGet_bad w ad n c l hl hn hb (by omega) hbad).mono fun _ _ h => h.weak
    · exact rGet_main w ad n c l hl hc hn hb (by omega) (by omega) (by omega)

set_option maxHeartbeats 2000000 in
set_option maxRecDepth 100000 in
theorem bytes_law (W : World) (R : Rec) (S : Spots) (hS : SpotsAt W R S) (ho : R.old.length < 140737488355328) (hn : R.new.length < 140737488355328) (ad : Option Addr) (n c : Nat) (l : List UInt8) (hB : SlAt W ad n c l) (hs : n < 140737488355328) (hz : ad = none → c = 0) :
    Calls Try.prog 3 #[.agg (recV R S), .slice ad n c] W fun e W' => e = .returned (.bool true) ∧ Fr [] W W' := by
  have HS := hidI hS
  have HB := hidI hB
  have hw1 : IntKind.i64.wrap ((R.old.length : Int) + (R.new.length : Int)) = (R.old.length : Int) + (R.new.length : Int) := by simp [IntKind.wrap, IntKind.signed, IntKind.bits]; omega
  have hw2 : IntKind.i64.wrap ((R.old.length : Int) + (R.new.length : Int) + (n : Int)) = (R.old.length : Int) + (R.new.length : Int) + (n : Int) := by simp [IntKind.wrap, IntKind.signed, IntKind.bits]; omega
  have f1 := (Fr.refl [] W).alloc (.cells (recV R S) 27)
  have p1 : RBox (W.alloc (.cells (recV R S) 27)) W.heap.size R S := heap_alloc_new W _
  clear hS hB
  go_enter Try.func3, Try.ntmps3
  generalize hA : W.alloc (.cells (recV R S) 27) = w1 at f1 p1
  go_wp2_with fail
  refine (awake_any _).mono ?_
  rintro e w2 ⟨rfl, f2⟩
  have p2 := p1.kept f2 (by simp)
  have F2 := f1.trans f2
  clear hA p1
  have x8 := p2.c8
  have x9 := p2.c9
  by_cases hbig : 5000 < R.old.length + R.new.length + n
  · have hb' : (5000 : Int) < (R.old.length : Int) + (R.new.length : Int) + (n : Int) := by omega
    go_wp2_with fail
    go_ret
    exact ⟨rfl, F2⟩
  have hb' : ¬ (5000 : Int) < (R.old.length : Int) + (R.new.length : Int) + (n : Int) := by omega
  have h5o : R.old.length ≤ 5000 := by omega
  have h5n : R.new.length ≤ 5000 := by omega
  have h5 : n ≤ 5000 := by omega
  have P2 := hidI p2
  clear p2
  go_wp2_with (refine wpList_load_row rfl 27 _ rfl W.heap.size rfl _ _ _ _ P2.out Try.underlying27 rfl (by rw [sizeR]; rfl) ?_)
  refine (lentRec_any w2 R S (HS.out.kept F2) h5o h5n).mono ?_
  rintro e w3 ⟨t, rfl, L3, f3⟩
  have P3 := hidI (P2.out.kept f3 (by simp))
  have F3 := F2.trans f3
  clear x8 x9
  go_upto_region 6 with (refine wp_storeR rfl _ _ rfl w3.heap.size (zeroR 0 0) R zeroS t rfl rfl (heap_alloc_new _ _) ?_; intro w4 q4 f4)
  have f4' : Fr [] w3 w4 := ((Fr.refl [] w3).alloc _).then f4 (fun i hi hm => by simp at hm; omega)
  have F4 := F3.trans f4'
  have L4 := hidI (L3.kept f4')
  have P4 := hidI (P3.out.kept f4' (by simp))
  have Q4 := hidI q4
  obtain ⟨b5, HB5⟩ : ∃ b, Hid (w3.heap.size = b) := ⟨_, rfl⟩
  rw [HB5.out] at Q4 ⊢
  clear f4 f4' L3 q4
  go_wp2_with (refine wpList_load_row rfl 27 _ rfl b5 rfl _ _ _ _ Q4.out Try.underlying27 rfl (by rw [sizeR]; rfl) ?_)
  refine (put_any w4 R t L4.out.spots (by omega)).mono ?_
  rintro e w5 ⟨ap, cp, rfl, bp, f5⟩
  have F5 := F4.trans f5
  have P5 := hidI (P4.out.kept f5 (by simp))
  go_wp2_with (refine wpList_load_row rfl 27 _ rfl W.heap.size rfl _ _ _ _ P5.out Try.underlying27 rfl (by rw [sizeR]; rfl) ?_)
  refine (rPut_any w5 R S (HS.out.kept F5) (by omega)).mono ?_
  rintro e w6 ⟨aq, cq, rfl, bq, f6⟩
  have F6 := F5.trans f6
  have bp6 := bp.kept f6 (by simp)
  go_wp2_with fail
  have B6 := HB.out.bytes.kept F6 (by simp)
  refine (lentQ w6 ad n c l HB.out.len B6 h5 (fun e => ⟨by have h1 := HB.out.cap; have h2 := hz e; omega, hz e⟩)).mono ?_
  rintro e w7 ⟨gx, cx, rfl, lx, -, f7⟩
  have F7 := F6.trans f7
  go_wp2_with fail
  refine (get_any w7 (some ⟨gx, 0, none⟩) n cx l HB.out.len (by have h1 := lx.cap; have h2 := HB.out.len; omega) (by omega) lx.bytes).mono ?_
  intro e w8 hg
  obtain ⟨s8, rfl, sp8, f8⟩ := got_of hg.weak
  clear hg
  have F8 := F7.trans f8
  go_upto_region 10 with (refine wp_storeR rfl _ _ rfl w8.heap.size (zeroR 0 0) (gotR l) zeroS s8 rfl rfl (heap_alloc_new _ _) ?_; intro w9 q9 f9)
  have f9' : Fr [] w8 w9 := ((Fr.refl [] w8).alloc _).then f9 (fun i hi hm => by simp at hm; omega)
  have F9 := F8.trans f9'
  have sp9 := sp8.kept f9'
  obtain ⟨b11, HB11⟩ : ∃ b, Hid (w8.heap.size = b) := ⟨_, rfl⟩
  rw [HB11.out] at q9 ⊢
  clear f9
  go_wp2_with fail
  refine (rGet_any w9 ad n c l HB.out.len HB.out.cap (by omega) (HB.out.bytes.kept F9 (by simp))).mono ?_
  intro e w10 hg
  obtain ⟨s10, rfl, sp10, f10⟩ := got_of hg
  clear hg
  have F10 := F9.trans f10
  go_upto_region 11 with (refine wp_storeR rfl _ _ rfl w10.heap.size (zeroR 0 0) (gotR l) zeroS s10 rfl rfl (heap_alloc_new _ _) ?_; intro w11 q11 f11)
  have f11' : Fr [] w10 w11 := ((Fr.refl [] w10).alloc _).then f11 (fun i hi hm => by simp at hm; omega)
  have F11 := F10.trans f11'
  obtain ⟨b14, HB14⟩ : ∃ b, Hid (w10.heap.size = b) := ⟨_, rfl⟩
  rw [HB14.out] at q11 ⊢
  clear f11
  have g57 := (((f6.trans f7).trans f8).trans f9').trans (f10.trans f11')
  have BP := hidI (bp.kept g57 (by simp))
  have BQ := hidI (bq.kept (((f7.trans f8).trans f9').trans (f10.trans f11')) (by simp))
  have P11 := hidI (P5.out.kept g57 (by simp))
  have Q11 := hidI (Q4.out.kept (f5.trans g57) (by simp))
  have L11 := hidI (L4.out.kept (f5.trans g57))
  have S9 := hidI (sp9.kept (f10.trans f11'))
  have S10 := hidI (sp10.kept f11')
  have G9 := hidI (q9.kept (f10.trans f11') (by simp))
  have G11 := hidI q11
  have LX := hidI (lx.kept ((f8.trans f9').trans (f10.trans f11')) (by simp))
  have HG := hidI (got_len l)
  clear g57 bp bq sp9 sp10 q9 q11 lx bp6 B6 sp8 f6 f7 f8 f9' f10 f11' f5 P5 P4 P3 P2 Q4 L4 f1 f2 f3 F2 F3 F4 F5 F6 F7 F8 F9 F10
  go_wp2_with fail
  refine (same_any w11 ap aq (putL R) (putL R) (putL R).length cp cq BP.out BQ.out rfl rfl (putL_len R)).mono ?_
  rintro e w12 ⟨rfl, f12⟩
  rw [beq_self_eq_true]
  have F12 := F11.trans f12
  obtain ⟨x0, x1, x2, x3, x4, x5, x6, x7, x8, x9⟩ := rcells Q11.out f12
  obtain ⟨y0, y1, y2, y3, y4, y5, y6, y7, y8, y9⟩ := rcells P11.out f12
  go_wp2_with fail
  refine (keptRec_yes w12 R t S (L11.out.kept f12) (HS.out.kept F12) h5o h5n).mono ?_
  rintro e w13 ⟨rfl, f13⟩
  have f113 := f12.trans f13
  have F13 := F12.trans f13
  clear x0 x1 x2 x3 x4 x5 x6 x7 x8 x9 y0 y1 y2 y3 y4 y5 y6 y7 y8 y9
  obtain ⟨x0, x1, x2, x3, x4, x5, x6, x7, x8, x9⟩ := rcells G9.out f113
  obtain ⟨y0, y1, y2, y3, y4, y5, y6, y7, y8, y9⟩ := rcells G11.out f113
  go_wp2_with fail
  refine (sameRec_yes w13 (gotR l) s8 s10 (S9.out.kept f113) (S10.out.kept f113) HG.out.1 HG.out.2).mono ?_
  rintro e w14 ⟨rfl, f14⟩
  have f114 := f113.trans f14
  have F14 := F13.trans f14
  clear x0 x1 x2 x3 x4 x5 x6 x7 x8 x9 y0 y1 y2 y3 y4 y5 y6 y7 y8 y9
  go_wp2_with fail
  refine (kept_any w14 gx cx n c ad l HB.out.len h5 (LX.out.kept f114 (by simp)) (HB.out.bytes.kept F14 (by simp))).mono ?_
  rintro e w15 ⟨rfl, f15⟩
  go_wp2_with fail
  go_ret
  exact ⟨rfl, F14.trans f15⟩

end Go.Proofs.Yticmjdblcomecaa
