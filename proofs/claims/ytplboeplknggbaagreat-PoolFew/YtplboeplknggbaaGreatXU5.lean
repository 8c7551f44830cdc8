/-
  Flush where no page is dirty; a pool that is made.
-/
import Derived.Test.YtplboeplknggbaaGreatXU4
namespace Go.Proofs.YtplboeplknggbaaGreat
open Go.RowKit Go.Maps

/-- The frame of a page, and what the pool is then. -/
def Fnd (x x' : Po) (page : Nat) (f : Fm) : Prop :=
  (∃ j f0, x.fs[j]? = some f0 ∧ f0.pg = page ∧ f = { f0 with ask := true } ∧ x' = x.asked j f0) ∨
  (page ∉ (ids x.fs).map (·.1) ∧ Missed x x' page f.b ∧ f = newF f.b page (pgD x.start x.y page))
theorem Missed.at {x x' : Po} {page g : Nat} (h : Missed x x' page g) : ∃ j : Nat, x'.fs[j]? = some (newF g page (pgD x.start x.y page)) := by
  rcases h with ⟨_, a, c, rfl⟩ | ⟨_, y', k, j, f, _, _, hf, _, rfl, _⟩
  · exact ⟨x.fs.length, by simp [Po.added]⟩
  · refine ⟨j, ?_⟩
    show ((turnS k (x.fs.set j { f with fst := 0 }, x.hand)).1.set j _)[j]? = _
    rw [List.getElem?_set_self]
    rw [turnS_len, List.length_set]
    exact (List.getElem?_eq_some_iff.1 hf).1
theorem pg_in {fs : List Fm} {page : Nat} (h : page ∈ (ids fs).map (·.1)) : ∃ (j : Nat) (f : Fm), fs[j]? = some f ∧ f.pg = page := by
  obtain ⟨q, hq, rfl⟩ := List.mem_map.1 h
  obtain ⟨f, hf, rfl⟩ := List.mem_map.1 hq
  obtain ⟨j, hj⟩ := List.mem_iff_getElem?.1 hf
  exact ⟨j, f, hj, rfl⟩
/-- All frames are held, and the page is in none. -/
def Busy (x : Po) (page : Nat) : Prop := x.fs.length = x.most ∧ page ∉ (ids x.fs).map (·.1) ∧ ∀ f ∈ x.fs, f.hd ≠ 0
theorem found_any {w : World} {x : Po} (h : PoAt w x) {page : Nat} (hp : page < x.pages) :
    Calls Tryz.prog 44 #[.pointer (some ⟨x.pp, 0, none⟩), .int .i64 (page : Int)] w fun e w' => (e = .returned (.tuple #[.pointer none, .int .i64 9]) ∧ Busy x page ∧ Fr [] w w') ∨ ∃ (f : Fm) (x' : Po) (j : Nat), e = .returned (.tuple #[.pointer (some ⟨f.b, 0, none⟩), .int .i64 0]) ∧ Step w w' x x' ∧ Fnd x x' page f ∧ x'.fs[j]? = some f := by
  by_cases hin : page ∈ (ids x.fs).map (·.1)
  · obtain ⟨j, f, hj, rfl⟩ := pg_in hin
    refine (found_hit h hj).mono ?_
    rintro e w' ⟨he, _, _, st⟩
    exact Or.inr ⟨{ f with ask := true }, _, j, he, st, Or.inl ⟨j, f, hj, rfl, rfl, rfl⟩, by
      show (x.fs.set j _)[j]? = _
      rw [List.getElem?_set_self (List.getElem?_eq_some_iff.1 hj).1]⟩
  · refine (found_miss h hp hin).mono ?_
    rintro e w' (⟨he, h1, h2, fr⟩ | ⟨g, x', he, st, hm, _⟩)
    · exact Or.inl ⟨he, ⟨h1, hin, h2⟩, fr⟩
    · obtain ⟨j, hj⟩ := hm.at
      exact Or.inr ⟨newF g page (pgD x.start x.y page), x', j, he, st, Or.inr ⟨hin, hm, rfl⟩, hj⟩
set_option maxHeartbeats 400000 in
theorem pmade_nil (w : World) : Calls Tryz.prog 33 #[.pointer none] w fun e w' => e = .returned (.bool false) ∧ w' = w := by
  go_enter Tryz.func33, Tryz.ntmps33
  go_wp2
  go_ret
  exact ⟨rfl, rfl⟩
set_option maxHeartbeats 400000 in
theorem pmade_zero (w : World) (p : Nat) (h : w.cell? ⟨p, 0, none⟩ = some (.pointer none)) : Calls Tryz.prog 33 #[.pointer (some ⟨p, 0, none⟩)] w fun e w' => e = .returned (.bool false) ∧ w' = w := by
  go_enter Tryz.func33, Tryz.ntmps33
  go_wp2
  go_ret
  exact ⟨rfl, rfl⟩
set_option maxHeartbeats 400000 in
theorem pmade_yes {w : World} {pp : Nat} {x : Pf} (h : PBox' w pp x) : Calls Tryz.prog 33 #[.pointer (some ⟨pp, 0, none⟩)] w fun e w' => e = .returned (.bool true) ∧ w' = w := by
  have c0 := h.c0
  go_enter Tryz.func33, Tryz.ntmps33
  go_wp2
  go_ret
  exact ⟨rfl, rfl⟩
/-- No pool, or one that nobody made. -/
def NoPool (w : World) (v : Value) : Prop := v = .pointer none ∨ ∃ p, v = .pointer (some ⟨p, 0, none⟩) ∧ w.cell? ⟨p, 0, none⟩ = some (.pointer none)
theorem pmade_no (w : World) (v : Value) (h : NoPool w v) : Calls Tryz.prog 33 #[v] w fun e w' => e = .returned (.bool false) ∧ w' = w := by
  rcases h with rfl | ⟨p, rfl, h⟩
  · exact pmade_nil w
  · exact pmade_zero w p h
/-- What every call on a page is told first. -/
def hasR (x : Pf) (k : Int) : Int := if k < 0 ∨ (x.pages : Int) ≤ k then 6 else 0
set_option maxHeartbeats 1000000 in
theorem has_any {w : World} {pp : Nat} {x : Pf} (h : PBox' w pp x) (k : Int) : Calls Tryz.prog 43 #[.pointer (some ⟨pp, 0, none⟩), .int .i64 k] w fun e w' => e = .returned (.int .i64 (hasR x k)) ∧ w' = w := by
  have c3 := h.c3
  have HB := hidI h
  unfold hasR
  by_cases h0 : k < 0
  · rw [if_pos (Or.inl h0)]
    go_enter Tryz.func43, Tryz.ntmps43
    go_wp2_with (go_at_call 33; refine (pmade_yes HB.out).mono ?_; rintro e wz ⟨rfl, hz⟩; rw [hz]; clear hz)
    go_ret
    exact ⟨rfl, rfl⟩
  · by_cases h1 : (x.pages : Int) ≤ k
    · rw [if_pos (Or.inr h1)]
      go_enter Tryz.func43, Tryz.ntmps43
      go_wp2_with (go_at_call 33; refine (pmade_yes HB.out).mono ?_; rintro e wz ⟨rfl, hz⟩; rw [hz]; clear hz)
      go_ret
      exact ⟨rfl, rfl⟩
    · rw [if_neg (by omega)]
      go_enter Tryz.func43, Tryz.ntmps43
      go_wp2_with (go_at_call 33; refine (pmade_yes HB.out).mono ?_; rintro e wz ⟨rfl, hz⟩; rw [hz]; clear hz)
      go_ret
      exact ⟨rfl, rfl⟩
theorem has_no (w : World) (v : Value) (h : NoPool w v) (k : Int) : Calls Tryz.prog 43 #[v, .int .i64 k] w fun e w' => e = .returned (.int .i64 1) ∧ w' = w := by
  go_enter Tryz.func43, Tryz.ntmps43
  go_wp2_with (go_at_call 33; refine (pmade_no _ _ h).mono ?_; rintro e wz ⟨rfl, hz⟩; rw [hz]; clear hz)
  go_ret
  exact ⟨rfl, rfl⟩
set_option maxHeartbeats 1000000 in
theorem reach_any {w : World} {x : Po} (h : PoAt w x) {page : Nat} (hp : page < x.pages) :
    Calls Tryz.prog 42 #[.pointer (some ⟨x.pp, 0, none⟩), .int .i64 (page : Int)] w fun e w' => (e = .returned (.tuple #[.pointer none, .int .i64 9]) ∧ Busy x page ∧ Fr [] w w') ∨ ∃ (f : Fm) (x' : Po) (j : Nat), e = .returned (.tuple #[.pointer (some ⟨f.b, 0, none⟩), .int .i64 0]) ∧ Step w w' x x' ∧ Fnd x x' page f ∧ x'.fs[j]? = some f := by
  have HH := hidI h
  have hr : hasR x.pf (page : Int) = 0 := by
    unfold hasR
    rw [if_neg (by show ¬ ((page : Int) < 0 ∨ (x.pages : Int) ≤ (page : Int)); omega)]
  clear h
  go_enter Tryz.func42, Tryz.ntmps42
  go_wp2_with (go_at_call 43; refine (has_any HH.out.box _).mono ?_; rw [hr]; rintro e wz ⟨rfl, hz⟩; rw [hz]; clear hz)
  refine (found_any HH.out hp).mono ?_
  rintro e w' (⟨rfl, h1, h2⟩ | ⟨f, x', j, rfl, h1, h2, h3⟩)
  · go_wp2_with fail
    go_ret2
    exact Or.inl ⟨rfl, h1, h2⟩
  · go_wp2_with fail
    go_ret2
    exact Or.inr ⟨f, x', j, rfl, h1, h2, h3⟩
set_option maxHeartbeats 1000000 in
theorem reach_out {w : World} {pp : Nat} {x : Pf} (h : PBox' w pp x) {k : Int} (hk : k < 0 ∨ (x.pages : Int) ≤ k) :
    Calls Tryz.prog 42 #[.pointer (some ⟨pp, 0, none⟩), .int .i64 k] w fun e w' => e = .returned (.tuple #[.pointer none, .int .i64 6]) ∧ w' = w := by
  have hr : hasR x k = 6 := by
    unfold hasR
    rw [if_pos hk]
  go_enter Tryz.func42, Tryz.ntmps42
  go_wp2_with (go_at_call 43; refine (has_any h _).mono ?_; rw [hr]; rintro e wz ⟨rfl, hz⟩; rw [hz]; clear hz)
  go_ret2
  exact ⟨rfl, rfl⟩
theorem reach_no (w : World) (v : Value) (h : NoPool w v) (k : Int) : Calls Tryz.prog 42 #[v, .int .i64 k] w fun e w' => e = .returned (.tuple #[.pointer none, .int .i64 1]) ∧ w' = w := by
  go_enter Tryz.func42, Tryz.ntmps42
  go_wp2_with (go_at_call 43; refine (has_no _ _ h _).mono ?_; rintro e wz ⟨rfl, hz⟩; rw [hz]; clear hz)
  go_ret2
  exact ⟨rfl, rfl⟩
theorem read_no (w : World) (v : Value) (h : NoPool w v) (k : Int) : Calls Tryz.prog 14 #[v, .int .i64 k] w fun e w' => e = .returned (.tuple #[.slice none 0 0, .int .i64 1]) ∧ w' = w := by
  go_enter Tryz.func14, Tryz.ntmps14
  go_wp2_with (go_at_call 42; refine (reach_no _ _ h _).mono ?_; rintro e wz ⟨rfl, hz⟩; rw [hz]; clear hz)
  go_ret2
  exact ⟨rfl, rfl⟩
set_option maxHeartbeats 1000000 in
set_option maxRecDepth 100000 in
theorem read_any {w : World} {x : Po} (h : PoAt w x) {page : Nat} (hp : page < x.pages) :
    Calls Tryz.prog 14 #[.pointer (some ⟨x.pp, 0, none⟩), .int .i64 (page : Int)] w fun e w' => (e = .returned (.tuple #[.slice none 0 0, .int .i64 9]) ∧ Busy x page ∧ Fr [] w w') ∨ ∃ (f : Fm) (x' : Po) (j g : Nat), e = .returned (.tuple #[.slice (some ⟨g, 0, none⟩) 512 512, .int .i64 0]) ∧ Step w w' x x' ∧ Fnd x x' page f ∧ x'.fs[j]? = some f ∧ Blk w' g f.l ∧ w.heap.size ≤ g ∧ g ∉ x'.own := by
  have HH := hidI h
  clear h
  go_enter Tryz.func14, Tryz.ntmps14
  go_wp2_with fail
  refine (reach_any HH.out hp).mono ?_
  rintro e w' (⟨rfl, h1, h2⟩ | ⟨f, x', j, rfl, h1, h2, h3⟩)
  · go_wp2_with fail
    go_ret2
    exact Or.inl ⟨rfl, h1, h2⟩
  · have FA := hidI (h1.at'.rn.frames f (List.mem_of_getElem? h3))
    have ST := hidI h1
    clear h1
    go_wp2_with (first
      | (refine wp_make rfl _ _ rfl 512 rfl rfl (by omega) ?_; intro w1 g hg1 b1 f1)
      | (refine wp_copyB rfl _ _ rfl g 0 (some ⟨g, 0, none⟩) 512 512 (some ⟨f.b, 1, none⟩) 512 512 512 (zs 512) f.l rfl rfl b1.row FA.out.len (fun _ => rfl) ((FA.out.kept f1 (by simp)).bytes) (by rw [FA.out.len, zs_length]; omega) ?_; intro w2 r2 f2; rw [FA.out.len]))
    go_ret2
    have hl := FA.out.len
    have e1 : over (zs 512) 0 f.l = f.l := over_all (by rw [hl, zs_length])
    rw [e1] at r2
    have hb : Blk w2 g f.l := by
      obtain ⟨t, ht, hsz⟩ := r2
      have ht0 : t = [] := List.eq_nil_of_length_eq_zero (by omega)
      subst ht0
      simpa [Blk] using ht
    have hgx : g ∉ x'.own := fun e => by
      have h4 := ST.out.at'.lt g (List.mem_cons_of_mem _ e)
      omega
    have f12 : Fr [] w' w2 := f1.then f2 (fun i hi e => by simp at e; omega)
    exact Or.inr ⟨f, x', j, g, rfl, ⟨ST.out.at'.kept f12 (by simp), ST.out.fr.then f12 (fun _ _ e => nomatch e), ST.out.ow⟩, h2, h3, hb, Nat.le_trans ST.out.fr.size hg1, hgx⟩
/-- A frame whose page is changed. -/
def Fm.changed (f : Fm) (off : Nat) (l : List UInt8) (lsn : Int) : Fm := { f with l := over f.l off l, fst := if 0 < f.fst then f.fst else lsn, lst := max f.lst lsn }
set_option maxHeartbeats 1000000 in
theorem fchange_any {w : World} {f : Fm} (h : FAt w f) (off : Nat) (ad : Option Addr) (c : Nat) (l : List UInt8) (lsn : Int) (hl : 0 < l.length) (hfit : off + l.length ≤ 512) (hb : BytesAt w ad l) :
    Calls Tryz.prog 45 #[.pointer (some ⟨f.b, 0, none⟩), .int .i64 (off : Int), .slice ad l.length c, .int .i64 lsn] w fun e w' => e = .returned (.tuple #[]) ∧ FAt w' (f.changed off l lsn) ∧ Fr [f.b] w w' := by
  have q0 : (0 : Int) ≤ (off : Int) := by omega
  have q1 : (off : Int) ≤ 512 := by omega
  have q2 : ¬ 512 = off := by omega
  have HF := hidI h
  have HL : Hid (l.length = Nat.min l.length (512 - off)) := hidI (by show l.length = min l.length (512 - off); omega)
  obtain ⟨n, HN⟩ : ∃ n, Hid (l.length = n) := ⟨_, rfl⟩
  rw [HN.out]
  have HL' : Hid (l.length = Nat.min n (512 - off)) := hidI (by have := HL.out; rw [HN.out] at this ⊢; exact this)
  clear h
  by_cases hd : 0 < f.fst
  · have hdt : decide (0 < f.fst) = true := decide_eq_true hd
    have hfc : f.changed off l lsn = { { f with l := over f.l off l } with lst := max f.lst lsn } := by
      unfold Fm.changed
      rw [if_pos hd]
    rw [hfc]
    go_enter Tryz.func45, Tryz.ntmps45
    go_wp2_with (first
      | (refine wp_copyF rfl _ _ rfl f off (512 - off) (512 - off) ad n c l rfl rfl HF.out HL'.out hl hb hfit ?_; intro w2 F2 f2; have FH := hidI F2; have d5 := F2.c5; have z5 := F2.fz 516)
      | (go_at_call 74; refine (dirty_any FH.out).mono ?_; rw [show ({ f with l := over f.l off l } : Fm).fst = f.fst from rfl, hdt]; rintro e wz ⟨rfl, hz⟩; rw [hz]; clear hz))
    all_goals
      go_end0
      refine ⟨rfl, ?_, ?_⟩
      · first
          | (rw [Int.max_eq_left (by omega)]; exact FH.out.s5 _)
          | (rw [Int.max_eq_right (by omega)]; exact FH.out.s5 _)
      · exact f2.setCell _ _ (fun _ => by simp)
  · have hdt : decide (0 < f.fst) = false := decide_eq_false hd
    have hfc : f.changed off l lsn = { { { f with l := over f.l off l } with fst := lsn } with lst := max f.lst lsn } := by
      unfold Fm.changed
      rw [if_neg hd]
    rw [hfc]
    go_enter Tryz.func45, Tryz.ntmps45
    go_wp2_with (first
      | (refine wp_copyF rfl _ _ rfl f off (512 - off) (512 - off) ad n c l rfl rfl HF.out HL'.out hl hb hfit ?_; intro w2 F2 f2; have FH := hidI F2; have d4 := F2.c4; have z4 := F2.fz 515; have F3 := F2.s4 lsn; have d5 := F3.c5; have z5 := F3.fz 516; have FH3 := hidI F3)
      | (go_at_call 74; refine (dirty_any FH.out).mono ?_; rw [show ({ f with l := over f.l off l } : Fm).fst = f.fst from rfl, hdt]; rintro e wz ⟨rfl, hz⟩; rw [hz]; clear hz))
    all_goals
      go_end0
      refine ⟨rfl, ?_, ?_⟩
      · first
          | (rw [Int.max_eq_left (by omega)]; exact FH3.out.s5 _)
          | (rw [Int.max_eq_right (by omega)]; exact FH3.out.s5 _)
      · exact (f2.setCell _ _ (fun _ => by simp)).setCell _ _ (fun _ => by simp)
end Go.Proofs.YtplboeplknggbaaGreat

namespace Go.Proofs.YtplboeplknggbaaGreat
open Go.RowKit Go.Maps

theorem pages_no (w : World) (v : Value) (h : NoPool w v) : Calls Tryz.prog 9 #[v] w fun e w' => e = .returned (.int .i64 0) ∧ w' = w := by
  go_enter Tryz.func9, Tryz.ntmps9
  go_wp2_with (go_at_call 33; refine (pmade_no _ _ h).mono ?_; rintro e wz ⟨rfl, hz⟩; rw [hz]; clear hz)
  go_ret
  exact ⟨rfl, rfl⟩
theorem frames_no (w : World) (v : Value) (h : NoPool w v) : Calls Tryz.prog 12 #[v] w fun e w' => e = .returned (.int .i64 0) ∧ w' = w := by
  go_enter Tryz.func12, Tryz.ntmps12
  go_wp2_with (go_at_call 33; refine (pmade_no _ _ h).mono ?_; rintro e wz ⟨rfl, hz⟩; rw [hz]; clear hz)
  go_ret
  exact ⟨rfl, rfl⟩
theorem flush_no (w : World) (v : Value) (h : NoPool w v) : Calls Tryz.prog 18 #[v] w fun e w' => e = .returned (.int .i64 1) ∧ w' = w := by
  go_enter Tryz.func18, Tryz.ntmps18
  go_wp2_with (go_at_call 33; refine (pmade_no _ _ h).mono ?_; rintro e wz ⟨rfl, hz⟩; rw [hz]; clear hz)
  go_ret
  exact ⟨rfl, rfl⟩
theorem dirty_no (w : World) (v : Value) (h : NoPool w v) : Calls Tryz.prog 13 #[v] w fun e w' => e = .returned (.slice none 0 0) ∧ w' = w := by
  go_enter Tryz.func13, Tryz.ntmps13
  go_wp2_with (go_at_call 33; refine (pmade_no _ _ h).mono ?_; rintro e wz ⟨rfl, hz⟩; rw [hz]; clear hz)
  go_ret
  exact ⟨rfl, rfl⟩
theorem hold_no (w : World) (v : Value) (h : NoPool w v) (k : Int) : Calls Tryz.prog 16 #[v, .int .i64 k] w fun e w' => e = .returned (.int .i64 1) ∧ w' = w := by
  go_enter Tryz.func16, Tryz.ntmps16
  go_wp2_with (go_at_call 42; refine (reach_no _ _ h _).mono ?_; rintro e wz ⟨rfl, hz⟩; rw [hz]; clear hz)
  go_ret
  exact ⟨rfl, rfl⟩
theorem leave_no (w : World) (v : Value) (h : NoPool w v) (k : Int) : Calls Tryz.prog 17 #[v, .int .i64 k] w fun e w' => e = .returned (.bool false) ∧ w' = w := by
  go_enter Tryz.func17, Tryz.ntmps17
  go_wp2_with (go_at_call 43; refine (has_no _ _ h _).mono ?_; rintro e wz ⟨rfl, hz⟩; rw [hz]; clear hz)
  go_ret
  exact ⟨rfl, rfl⟩
theorem NoPool.kept {w w' : World} {v : Value} {L : List Nat} (h : NoPool w v) (f : Fr L w w') (hL : ∀ p, v = .pointer (some ⟨p, 0, none⟩) → p ∉ L) : NoPool w' v := by
  rcases h with rfl | ⟨p, rfl, h⟩
  · exact Or.inl rfl
  · refine Or.inr ⟨p, rfl, ?_⟩
    rw [← h]
    exact World.cell?_of_block (f.block p (block_lt_of_cell h) (hL p rfl))
set_option maxHeartbeats 1000000 in
theorem change_no (w : World) (v : Value) (h : NoPool w v) (blk off lsn : Int) (a1 a2 : Option Addr) (n1 c1 n2 c2 : Nat) : Calls Tryz.prog 15 #[v, .agg #[.int .i64 blk, .int .i64 off, .slice a1 n1 c1, .slice a2 n2 c2], .int .i64 lsn] w fun e w' => e = .returned (.int .i64 1) ∧ Fr [] w w' := by
  have fa : Fr [] w (w.alloc (.cells #[.int .i64 blk, .int .i64 off, .slice a1 n1 c1, .slice a2 n2 c2] 42)) := (Fr.refl [] w).alloc _
  have h1 := h.kept fa (by simp)
  go_enter Tryz.func15, Tryz.ntmps15
  go_wp2_with (go_at_call 43; refine (has_no _ _ h1 _).mono ?_; rintro e wz ⟨rfl, hz⟩; rw [hz]; clear hz)
  go_ret
  exact ⟨rfl, fa⟩
set_option maxHeartbeats 4000000 in
theorem change_any {w : World} {x : Po} (h : PoAt w x) {page : Nat} (hp : page < x.pages) (off : Nat) (a1 : Option Addr) (n1 c1 : Nat) (ad : Option Addr) (c : Nat) (l : List UInt8) (hl : 0 < l.length) (hfit : off + l.length ≤ 512) (hb : BytesAt w ad l) (hbo : ∀ b o, ad = some ⟨b, o, none⟩ → b ∉ x.own) (lsn : Int) (hl1 : 1 ≤ lsn) (hl2 : lsn ≤ (x.y.E : Int)) :
    Calls Tryz.prog 15 #[.pointer (some ⟨x.pp, 0, none⟩), .agg #[.int .i64 (page : Int), .int .i64 (off : Int), .slice a1 n1 c1, .slice ad l.length c], .int .i64 lsn] w fun e w' => (e = .returned (.int .i64 9) ∧ Busy x page ∧ Fr [] w w') ∨ ∃ (f : Fm) (x' : Po) (j : Nat), e = .returned (.int .i64 0) ∧ Step w w' x { x' with fs := x'.fs.set j (f.changed off l lsn) } ∧ Fnd x x' page f ∧ x'.fs[j]? = some f := by
  obtain ⟨n, HN⟩ : ∃ n, Hid (l.length = n) := ⟨_, rfl⟩
  rw [HN.out]
  have fa : Fr [] w (w.alloc (.cells #[.int .i64 (page : Int), .int .i64 (off : Int), .slice a1 n1 c1, .slice ad n c] 42)) := (Fr.refl [] w).alloc _
  have hnew := hidI (heap_alloc_new w (.cells #[.int .i64 (page : Int), .int .i64 (off : Int), .slice a1 n1 c1, .slice ad n c] 42))
  have H1 := hidI (h.kept fa (by simp))
  have HB1 := hidI (hb.kept fa (by simp))
  have hr : hasR x.pf (page : Int) = 0 := by
    unfold hasR
    rw [if_neg (by show ¬ ((page : Int) < 0 ∨ (x.pages : Int) ≤ (page : Int)); omega)]
  have hnn : n ≤ 512 := by rw [← HN.out]; omega
  have q0 : ¬ (off : Int) < 0 := by omega
  have q1 : ((n : Int) == 0) = false := by rw [beq_eq_false_iff_ne]; have := HN.out; omega
  have q2 : IntKind.i64.wrap (512 - (n : Int)) = 512 - (n : Int) := wrapI _ (by omega) (by omega)
  have q3 : ¬ 512 - (n : Int) < (off : Int) := by have := HN.out; omega
  have q4 : ¬ lsn < 1 := by omega
  have q5 : ¬ (x.y.E : Int) + 1 ≤ lsn := by omega
  have b1 : (w.alloc (.cells #[.int .i64 (page : Int), .int .i64 (off : Int), .slice a1 n1 c1, .slice ad n c] 42)).cell? ⟨x.pp, 1, none⟩ = some (.pointer (some ⟨x.y.p, 0, none⟩)) := H1.out.box.c1
  have HLT := hidI h.lt
  clear h hb
  go_enter Tryz.func15, Tryz.ntmps15
  go_wp2_with (first
    | (go_at_call 43; refine (has_any H1.out.box _).mono ?_; rw [hr]; rintro e wz ⟨rfl, hz⟩; rw [hz]; clear hz)
    | (go_at_call 35; refine (lo_end H1.out.lo).mono ?_; rintro e wz ⟨rfl, hz⟩; rw [hz]; clear hz))
  refine (found_any H1.out hp).mono ?_
  rintro e w2 (⟨rfl, h1, h2⟩ | ⟨f, x', j, rfl, h1, h2, h3⟩)
  · go_wp2_with fail
    go_ret
    exact Or.inl ⟨rfl, h1, fa.trans h2⟩
  · have hns : w.heap.size ∉ x.own := fun e => by
      have := HLT.out _ (List.mem_cons_of_mem _ e)
      omega
    have s2 := h1.fr.same hns hnew.out
    have d1 := cell_of_row w2 w.heap.size 1 _ _ _ s2
    have d3 := cell_of_row w2 w.heap.size 3 _ _ _ s2
    have FA := hidI (h1.at'.rn.frames f (List.mem_of_getElem? h3))
    have HB2 := hidI (HB1.out.kept h1.fr (fun b o e => hbo b o e))
    have ST := hidI h1
    have HOK := hidI (h1.at'.ok f (List.mem_of_getElem? h3))
    clear h1
    go_wp2_with fail
    have hfc := fchange_any FA.out off ad c l lsn hl hfit HB2.out
    rw [HN.out] at hfc
    refine hfc.mono ?_
    rintro e w3 ⟨rfl, F3, f3⟩
    go_wp2_with fail
    go_ret
    have hE : x'.y.E = x.y.E := by
      rcases h2 with ⟨j0, f0, _, _, _, rfl⟩ | ⟨_, hm, _⟩
      · rfl
      · rcases hm with ⟨_, a, c, rfl⟩ | ⟨_, y', k, j, f, _, _, _, _, rfl, hk, _⟩
        · rfl
        · exact hk.E
    have hok2 : FOk x'.start x'.pages x'.y (f.changed off l lsn) := by
      have ho := HOK.out
      refine ⟨ho.pg, ho.h0, ho.h1, ?_, ?_, ?_, ?_⟩
      · show 0 ≤ (if 0 < f.fst then f.fst else lsn)
        split <;> omega
      · show 0 ≤ max f.lst lsn
        have := ho.l0
        omega
      · show max f.lst lsn ≤ (x'.y.E : Int)
        have := ho.l1
        rw [hE] at this ⊢
        omega
      · intro e
        exfalso
        have e' : (if 0 < f.fst then f.fst else lsn) = 0 := e
        split at e' <;> omega
    have st2 := Step.asked (w' := w3) ST.out.at' h3 (f' := f.changed off l lsn) rfl rfl hok2 F3 f3
    have st0 : Step w (w.alloc (.cells #[.int .i64 (page : Int), .int .i64 (off : Int), .slice a1 n1 c1, .slice ad n c] 42)) x x := ⟨H1.out, fa.mono (fun _ _ e => nomatch e), fun k hk => Or.inl hk⟩
    exact Or.inr ⟨f, x', j, rfl, (st0.trans ST.out).trans st2, h2, h3⟩
theorem pages_any {w : World} {pp : Nat} {x : Pf} (h : PBox' w pp x) : Calls Tryz.prog 9 #[.pointer (some ⟨pp, 0, none⟩)] w fun e w' => e = .returned (.int .i64 (x.pages : Int)) ∧ w' = w := by
  have c3 := h.c3
  go_enter Tryz.func9, Tryz.ntmps9
  go_wp2_with (go_at_call 33; refine (pmade_yes h).mono ?_; rintro e wz ⟨rfl, hz⟩; rw [hz]; clear hz)
  go_ret
  exact ⟨rfl, rfl⟩
theorem frames_any {w : World} {x : Po} (h : PoAt w x) : Calls Tryz.prog 12 #[.pointer (some ⟨x.pp, 0, none⟩)] w fun e w' => e = .returned (.int .i64 (x.fs.length : Int)) ∧ w' = w := by
  have c5 := h.box.c5
  have r0 : w.cell? ⟨x.pf.rp, 0, none⟩ = some (.slice x.sa x.fs.length x.sc) := h.rn.r0
  go_enter Tryz.func12, Tryz.ntmps12
  go_wp2_with (go_at_call 33; refine (pmade_yes h.box).mono ?_; rintro e wz ⟨rfl, hz⟩; rw [hz]; clear hz)
  go_ret
  exact ⟨rfl, rfl⟩
set_option maxRecDepth 100000 in
theorem len64_zero (w : World) : Calls Tryz.prog 170 #[.int .u64 0] w fun e w' => ∃ k, e = .returned (.int .i64 k) ∧ w' = w := by
  go_enter Tryz.func170, Tryz.ntmps170
  go_wp2
  go_ret
  exact ⟨_, rfl, rfl⟩
end Go.Proofs.YtplboeplknggbaaGreat

namespace Go.Proofs.YtplboeplknggbaaGreat
open Go.RowKit Go.Maps

theorem len_zero (w : World) : Calls Tryz.prog 117 #[.int .u64 0] w fun e w' => ∃ k, e = .returned (.int .i64 k) ∧ w' = w := by
  go_enter Tryz.func117, Tryz.ntmps117
  go_wp2_with (go_at_call 170; refine (len64_zero _).mono ?_; rintro e wz ⟨k, rfl, hz⟩; rw [hz]; clear hz)
  go_ret
  exact ⟨_, rfl, rfl⟩
theorem insert_zero (w : World) (v : Value) : Calls Tryz.prog 161 #[.slice none 0 0, .int .i64 0, .int .i64 0, v] w fun e w' => e = .returned (.tuple #[]) ∧ w' = w := by
  go_enter Tryz.func161, Tryz.ntmps161
  go_wp2_with fail
  go_loopw [8, 9] (fun s8 s9 wr => s8 = .int .i64 1 ∧ wr = w ∧ s9 = s9) (fun _ _ _ => 0)
  case atStart => exact ⟨rfl, rfl, rfl⟩
  case round =>
    obtain ⟨rfl, rfl, -⟩ := hrel
    go_wp2_with fail
    go_end0
    exact ⟨rfl, rfl⟩
set_option maxHeartbeats 1000000 in
theorem pdq_zero (w : World) (k : Int) (v : Value) : Calls Tryz.prog 116 #[.slice none 0 0, .int .i64 0, .int .i64 0, .int .i64 k, v] w fun e w' => e = .returned (.tuple #[]) ∧ w' = w := by
  go_enter Tryz.func116, Tryz.ntmps116
  go_wp2_with fail
  go_loopw [1, 2] (fun s1 s2 wr => s1 = .int .i64 0 ∧ s2 = .int .i64 0 ∧ wr = w) (fun _ _ _ => 0)
  case atStart => exact ⟨rfl, rfl, rfl⟩
  case round =>
    obtain ⟨rfl, rfl, rfl⟩ := hrel
    go_wp2_with (go_at_call 161; refine (insert_zero _ _).mono ?_; rintro e wz ⟨rfl, hz⟩; rw [hz]; clear hz)
    exact bodyPost_ret (results_none Tryz.results116 _ _ _) rfl ⟨rfl, rfl⟩
theorem sort_zero (w : World) (v : Value) : Calls Tryz.prog 75 #[.slice none 0 0, v] w fun e w' => e = .returned (.tuple #[]) ∧ w' = w := by
  go_enter Tryz.func75, Tryz.ntmps75
  go_wp2_with (first
    | (go_at_call 117; refine (len_zero _).mono ?_; rintro e wz ⟨k, rfl, hz⟩; rw [hz]; clear hz)
    | (go_at_call 116; refine (pdq_zero _ _ _).mono ?_; rintro e wz ⟨rfl, hz⟩; rw [hz]; clear hz))
  go_end0
  exact ⟨rfl, rfl⟩
set_option maxHeartbeats 1000000 in
theorem rising_zero {w : World} {x : Po} (h : PoAt w x) (hc : ∀ f ∈ x.fs, f.fst = 0) : Calls Tryz.prog 41 #[.pointer (some ⟨x.pp, 0, none⟩)] w fun e w' => e = .returned (.slice none 0 0) ∧ w' = w := by
  have c5 := h.box.c5
  have r0 : w.cell? ⟨x.pf.rp, 0, none⟩ = some (.slice x.sa x.fs.length x.sc) := h.rn.r0
  have HH := hidI h
  obtain ⟨n, HN⟩ : ∃ n, Hid (x.fs.length = n) := ⟨_, rfl⟩
  rw [HN.out] at r0
  have hn : n ≤ 1024 := by have h1 := h.hl; have h2 := h.m1; have := HN.out; omega
  clear h
  go_enter Tryz.func41, Tryz.ntmps41
  go_wp2_with fail
  go_loopw [3, 14] (fun s3 s14 wr => ∃ i : Nat, i ≤ n ∧ s3 = .slice none 0 0 ∧ s14 = .int .i64 (i : Int) ∧ wr = w) (fun _ s14 _ => n - (intOf s14).toNat)
  case atStart => exact ⟨0, by omega, rfl, rfl, rfl⟩
  case round =>
    obtain ⟨i, hi, rfl, rfl, hwr⟩ := hrel
    subst hwr
    by_cases hlt : i < n
    · have q1 : (i : Int) < (n : Int) := by omega
      have q0 : (0 : Int) ≤ (i : Int) := by omega
      have hwi : IntKind.i64.wrap ((i : Int) + 1) = (i : Int) + 1 := wrapI _ (by omega) (by omega)
      obtain ⟨f, hf⟩ : ∃ f, x.fs[i]? = some f := ⟨_, List.getElem?_eq_getElem (by have := HN.out; omega)⟩
      obtain ⟨g, cur, hsa, hg, hsc, hmx, hsz, htk⟩ := HH.out.rn.at (by have := HN.out; omega)
      have cj := row_cell hg htk hf
      have hdt : decide (0 < f.fst) = false := decide_eq_false (by rw [hc f (List.mem_of_getElem? hf)]; omega)
      have FA := hidI (HH.out.rn.frames f (List.mem_of_getElem? hf))
      clear hg htk hsz
      rw [hsa]
      go_wp2_with (go_at_call 74; refine (dirty_any FA.out).mono ?_; rw [hdt]; rintro e wz ⟨rfl, hz⟩; rw [hz]; clear hz)
      exact ⟨⟨i + 1, by omega, rfl, by go_num, trivial⟩, by simp [intOf]; omega⟩
    · have q1 : ¬ (i : Int) < (n : Int) := by omega
      go_wp2_with (go_at_call 75; refine (sort_zero _ _).mono ?_; rintro e wz ⟨rfl, hz⟩; rw [hz]; clear hz)
      go_ret
      exact ⟨rfl, rfl⟩
theorem latest_sync (S O : Dv.Tab) (k : Int) : Dv.latest (Dv.over S O) Dv.Tab.none k = Dv.latest S O k := by
  unfold Dv.latest Dv.over Dv.Tab.none Dv.Tab.get
  cases e : O k <;> simp [e]
/-- A pool whose log, or device, has done something by itself. -/
theorem Step.lower {w w' : World} {x : Po} (h : PoAt w x) {y' : Lo} (hy : LoAt w' y') {L : List Nat} (f : Fr L w w') (hL : ∀ k ∈ L, k ∈ x.y.own) (how : ∀ k ∈ y'.own, k ∈ x.y.own ∨ w.heap.size ≤ k)
    (hd : y'.d = x.y.d) (hp : y'.p = x.y.p) (hbs : y'.bs = x.y.bs) (hbo : y'.bo = x.y.bo) (hnb : y'.nb = x.y.nb) (hfi : y'.first = x.y.first) (hco : y'.count = x.y.count) (hE : x.y.E ≤ y'.E) (hpg : ∀ q, q < x.pages → pgD x.start y' q = pgD x.start x.y q) : Step w w' x { x with y := y' } := by
  obtain ⟨S, hS, hT⟩ := h.mp
  have hpf : ({ x with y := y' } : Po).pf = x.pf := by
    show Pf.mk y'.d y'.p x.start x.pages x.most x.rp x.mp = Pf.mk x.y.d x.y.p x.start x.pages x.most x.rp x.mp
    rw [hd, hp]
  refine ⟨{ lo := hy, box := ?_, rn := h.rn.kept f (fun k hk e => h.d1 k hk (hL k e)), mp := ⟨S, hS.kept f (fun e => h.d3 (hL _ e)), hT⟩, mne := ?_, nod := h.nod, ok := ?_, hl := h.hl, m0 := h.m0, m1 := h.m1, hh := h.hh, hh0 := h.hh0, p1 := h.p1, area := ?_, dis := ?_ }, ?_, ?_⟩
  · rw [hpf]
    exact h.box.kept f (fun e => h.d4 (by simp only [Po.own, List.mem_cons, List.mem_append]; exact Or.inr (Or.inr (hL _ e))))
  · show x.mp ≠ y'.bs ∧ x.mp ≠ y'.bo
    rw [hbs, hbo]
    exact h.mne
  · intro g hg
    have ho := h.ok g hg
    exact { ho with l1 := Int.le_trans ho.l1 (by show (x.y.E : Int) ≤ (y'.E : Int); omega), cl := fun h0 => by show g.l = pgD x.start y' g.pg; rw [hpg g.pg ho.pg]; exact ho.cl h0 }
  · show (x.start : Int) + (x.pages : Int) ≤ y'.nb
    rw [hnb]
    exact h.area
  · show (x.start : Int) + (x.pages : Int) ≤ y'.first ∨ y'.first + y'.count ≤ (x.start : Int)
    rw [hfi, hco]
    exact h.dis
  · exact f.mono (fun k _ hk => by simp only [Po.own, List.mem_cons, List.mem_append]; exact Or.inr (Or.inr (hL k hk)))
  · intro k hk
    have hk2 : k = x.mp ∨ k ∈ ownR x.rp x.sa x.fs ∨ k ∈ y'.own := by simpa [Po.own] using hk
    simp only [Po.own, List.mem_cons, List.mem_append]
    rcases hk2 with h1 | h1 | h1
    · exact Or.inl (Or.inl h1)
    · exact Or.inl (Or.inr (Or.inl h1))
    · rcases how k h1 with h2 | h2
      · exact Or.inl (Or.inr (Or.inr h2))
      · exact Or.inr h2
set_option maxHeartbeats 1000000 in
theorem flush_zero {w : World} {x : Po} (h : PoAt w x) (hc : ∀ f ∈ x.fs, f.fst = 0) : Calls Tryz.prog 18 #[.pointer (some ⟨x.pp, 0, none⟩)] w fun e w' => e = .returned (.int .i64 0) ∧ ∃ y', Step w w' x { x with y := y' } ∧ Kin x.y y' := by
  have HH := hidI h
  clear h
  go_enter Tryz.func18, Tryz.ntmps18
  go_wp2_with (first
    | (go_at_call 33; refine (pmade_yes HH.out.box).mono ?_; rintro e wz ⟨rfl, hz⟩; rw [hz]; clear hz)
    | (go_at_call 41; refine (rising_zero HH.out hc).mono ?_; rintro e wz ⟨rfl, hz⟩; rw [hz]; clear hz))
  refine (cover_any HH.out.box HH.out.lo rfl none 0 0 [] rfl (by omega) (fun i g hg => by simp at hg) (fun g hg => by simp at hg)).mono ?_
  rintro e w2 ⟨rfl, y', L2, FO, hP, hown, f2⟩
  have HL2 := hidI L2
  have b0 : w2.cell? ⟨x.pp, 0, none⟩ = some (.pointer (some ⟨x.y.d, 0, none⟩)) := (HH.out.box.kept f2 (fun e => HH.out.d4 (by simp only [Po.own, Lo.own]; exact List.mem_cons_of_mem _ (List.mem_append_right _ (List.mem_append_left _ e))))).c0
  clear L2
  go_wp2_with fail
  go_loopw [21] (fun s21 wr => s21 = .int .i64 0 ∧ wr = w2) (fun _ _ => 0)
  case atStart => exact ⟨rfl, rfl⟩
  case round =>
    obtain ⟨rfl, hwr⟩ := hrel
    subst hwr
    have hD : Dv.Dev wr x.y.d y'.bs y'.bo y'.nb 0 false y'.S y'.O := by rw [← FO.d]; exact HL2.out.dev
    go_wp2_with fail
    refine (Dv.sync_dev hD rfl).mono ?_
    rintro e w3 ⟨rfl, D3, f3⟩
    go_wp2_with fail
    go_ret
    have f3' := fr_dv f3
    have L2 := HL2.out
    have hne := L2.ne
    have LO : LoAt w3 { y' with S := Dv.over y'.S y'.O, O := Dv.Tab.none } :=
      { L2 with
        dev := by
          rw [← FO.d] at D3
          exact D3
        box := L2.box.kept f3' (by simp only [List.mem_cons, List.not_mem_nil, or_false, not_or]; rw [← FO.d]; exact hne)
        bsA := own0_kept L2.bsA f3' (by rw [← FO.d]; exact dev_types3 L2.dev)
        lsA := own0_kept L2.lsA f3' (by
          intro g hg cur t e et
          subst et
          simp only [List.mem_cons, List.not_mem_nil, or_false] at hg
          rcases hg with rfl | rfl | rfl
          · rw [← FO.d, L2.dev.cells] at e
            cases e
          · obtain ⟨D', ⟨es, clock, hb, _⟩, _⟩ := L2.dev.safe
            rw [hb] at e
            cases e
          · obtain ⟨D', ⟨es, clock, hb, _⟩, _⟩ := L2.dev.opn
            rw [hb] at e
            cases e) }
    refine ⟨rfl, { y' with S := Dv.over y'.S y'.O, O := Dv.Tab.none }, Step.lower HH.out LO ((f2.mono (M := [x.y.p, x.y.d, x.y.bs, x.y.bo]) (fun _ _ e => e)).trans (f3'.mono (fun k _ hk => by rw [FO.bs, FO.bo] at hk; simp at hk ⊢; omega))) (fun k hk => by simp only [Lo.own, List.mem_append]; exact Or.inl hk) hown FO.d FO.p FO.bs FO.bo FO.nb FO.first FO.count (Nat.le_of_eq FO.E.symm) (fun q hq => ?_), ⟨FO.d, FO.bs, FO.bo, FO.nb, FO.p, FO.first, FO.count, FO.T, FO.A, FO.E, FO.P⟩⟩
    show Dv.latest (Dv.over y'.S y'.O) Dv.Tab.none _ = _
    rw [latest_sync]
    exact FO.pg HH.out.dis hq
set_option maxHeartbeats 1000000 in
theorem pdirty_zero {w : World} {x : Po} (h : PoAt w x) (hc : ∀ f ∈ x.fs, f.fst = 0) : Calls Tryz.prog 13 #[.pointer (some ⟨x.pp, 0, none⟩)] w fun e w' => e = .returned (.slice none 0 0) ∧ w' = w := by
  have HH := hidI h
  clear h
  go_enter Tryz.func13, Tryz.ntmps13
  go_wp2_with (first
    | (go_at_call 33; refine (pmade_yes HH.out.box).mono ?_; rintro e wz ⟨rfl, hz⟩; rw [hz]; clear hz)
    | (go_at_call 41; refine (rising_zero HH.out hc).mono ?_; rintro e wz ⟨rfl, hz⟩; rw [hz]; clear hz))
  go_loopw [3, 12] (fun s3 s12 wr => s3 = .slice none 0 0 ∧ s12 = .int .i64 0 ∧ wr = w) (fun _ _ _ => 0)
  case atStart => exact ⟨rfl, rfl, rfl⟩
  case round =>
    obtain ⟨rfl, rfl, hwr⟩ := hrel
    subst hwr
    go_wp2_with fail
    go_ret
    exact ⟨rfl, rfl⟩
theorem lend_nil (w : World) : Calls Tryz.prog 35 #[.pointer none] w fun e w' => e = .returned (.int .i64 0) ∧ w' = w := by
  go_enter Tryz.func35, Tryz.ntmps35
  go_wp2_with (go_at_call 55; refine (lmade_nil _).mono ?_; rintro e wz ⟨rfl, hz⟩; rw [hz]; clear hz)
  go_ret
  exact ⟨rfl, rfl⟩
theorem new_nil (w : World) (l : Value) (a b c : Int) : Calls Tryz.prog 21 #[.pointer none, l, .int .i64 a, .int .i64 b, .int .i64 c] w fun e w' => e = .returned (.pointer none) ∧ w' = w := by
  go_enter Tryz.func21, Tryz.ntmps21
  go_wp2_with (go_at_call 49; refine (Dv.blocks_none _ _ (nodev_nil _)).mono ?_; rintro e wz ⟨rfl, hz⟩; rw [hz]; clear hz)
  go_ret
  exact ⟨rfl, rfl⟩
set_option maxHeartbeats 1000000 in
theorem new_nolog {w : World} {d bs bo : Nat} {n a : Int} {dn : Bool} {S O : Dv.Tab} (hd : Dv.Dev w d bs bo n a dn S O) (p q r : Int) : Calls Tryz.prog 21 #[.pointer (some ⟨d, 0, none⟩), .pointer none, .int .i64 p, .int .i64 q, .int .i64 r] w fun e w' => e = .returned (.pointer none) ∧ w' = w := by
  have q0 : (n == 0) = false := by have := hd.n1; rw [beq_eq_false_iff_ne]; omega
  go_enter Tryz.func21, Tryz.ntmps21
  go_wp2_with (first
    | (go_at_call 49; refine (Dv.blocks_dev hd).mono ?_; rintro e wz ⟨rfl, hz⟩; rw [hz]; clear hz)
    | (go_at_call 35; refine (lend_nil _).mono ?_; rintro e wz ⟨rfl, hz⟩; rw [hz]; clear hz))
  go_ret
  exact ⟨rfl, rfl⟩
set_option maxHeartbeats 1000000 in
theorem new_area {w : World} {y : Lo} (h : LoAt w y) (p q r : Int) (hq0 : -1000000 ≤ q) (hq1 : q ≤ 1000000) (hbad : p < 0 ∨ q < 1 ∨ y.nb - q < p) : Calls Tryz.prog 21 #[.pointer (some ⟨y.d, 0, none⟩), .pointer (some ⟨y.p, 0, none⟩), .int .i64 p, .int .i64 q, .int .i64 r] w fun e w' => e = .returned (.pointer none) ∧ w' = w := by
  have n1 := h.dev.n1
  have n2 := h.dev.n2
  have q0 : (y.nb == 0) = false := by rw [beq_eq_false_iff_ne]; omega
  have q1 : ((y.E : Int) + 1 == 0) = false := by rw [beq_eq_false_iff_ne]; omega
  have q2 : IntKind.i64.wrap (y.nb - q) = y.nb - q := wrapI _ (by omega) (by omega)
  have HH := hidI h
  clear h
  by_cases h1 : p < 0
  · go_enter Tryz.func21, Tryz.ntmps21
    go_wp2_with (first
      | (go_at_call 49; refine (Dv.blocks_dev HH.out.dev).mono ?_; rintro e wz ⟨rfl, hz⟩; rw [hz]; clear hz)
      | (go_at_call 35; refine (lo_end HH.out).mono ?_; rintro e wz ⟨rfl, hz⟩; rw [hz]; clear hz))
    go_ret
    exact ⟨rfl, rfl⟩
  · by_cases h2 : q < 1
    · go_enter Tryz.func21, Tryz.ntmps21
      go_wp2_with (first
        | (go_at_call 49; refine (Dv.blocks_dev HH.out.dev).mono ?_; rintro e wz ⟨rfl, hz⟩; rw [hz]; clear hz)
        | (go_at_call 35; refine (lo_end HH.out).mono ?_; rintro e wz ⟨rfl, hz⟩; rw [hz]; clear hz))
      go_ret
      exact ⟨rfl, rfl⟩
    · have h3 : y.nb - q < p := by omega
      clear hbad
      go_enter Tryz.func21, Tryz.ntmps21
      go_wp2_with (first
        | (go_at_call 49; refine (Dv.blocks_dev HH.out.dev).mono ?_; rintro e wz ⟨rfl, hz⟩; rw [hz]; clear hz)
        | (go_at_call 35; refine (lo_end HH.out).mono ?_; rintro e wz ⟨rfl, hz⟩; rw [hz]; clear hz))
      go_ret
      exact ⟨rfl, rfl⟩
set_option maxHeartbeats 1000000 in
theorem new_ok {w : World} {y : Lo} (h : LoAt w y) (start pages most : Nat) (h1 : 1 ≤ pages) (h2 : (start : Int) + (pages : Int) ≤ y.nb) (h3 : 8 ≤ most) (h4 : most ≤ 1024) (hdis : (start : Int) + (pages : Int) ≤ y.first ∨ y.first + y.count ≤ (start : Int)) : Calls Tryz.prog 21 #[.pointer (some ⟨y.d, 0, none⟩), .pointer (some ⟨y.p, 0, none⟩), .int .i64 (start : Int), .int .i64 (pages : Int), .int .i64 (most : Int)] w fun e w' => ∃ pp rp mp, e = .returned (.pointer (some ⟨pp, 0, none⟩)) ∧ PoAt w' ⟨y, pp, rp, mp, start, pages, most, none, 0, 0, []⟩ ∧ w.heap.size ≤ pp ∧ w.heap.size ≤ rp ∧ w.heap.size ≤ mp ∧ Fr [] w w' := by
  have n1 := h.dev.n1
  have n2 := h.dev.n2
  have q0 : (y.nb == 0) = false := by rw [beq_eq_false_iff_ne]; omega
  have q1 : ((y.E : Int) + 1 == 0) = false := by rw [beq_eq_false_iff_ne]; omega
  have q2 : IntKind.i64.wrap (y.nb - (pages : Int)) = y.nb - (pages : Int) := wrapI _ (by omega) (by omega)
  have q3 : ¬ (start : Int) < 0 := by omega
  have q4 : ¬ (pages : Int) < 1 := by omega
  have q5 : ¬ y.nb - (pages : Int) < (start : Int) := by omega
  have q6 : ¬ (most : Int) < 8 := by omega
  have q7 : ¬ 1024 < (most : Int) := by omega
  have HH := hidI h
  have hmm := @run_makeMap Tryz.prog
  clear h
  go_enter Tryz.func21, Tryz.ntmps21
  go_wp2_with (first
    | (go_at_call 49; refine (Dv.blocks_dev HH.out.dev).mono ?_; rintro e wz ⟨rfl, hz⟩; rw [hz]; clear hz)
    | (go_at_call 35; refine (lo_end HH.out).mono ?_; rintro e wz ⟨rfl, hz⟩; rw [hz]; clear hz))
  go_ret
  obtain ⟨V1, HV1⟩ : ∃ V1, Hid (V1 = Obj.cells #[Value.slice none 0 0, Value.int IntKind.i64 0] 94) := ⟨_, rfl⟩
  obtain ⟨V3, HV3⟩ : ∃ V3, Hid (V3 = Obj.cells #[.pointer (some ⟨y.d, 0, none⟩), .pointer (some ⟨y.p, 0, none⟩), .int .i64 (start : Int), .int .i64 (pages : Int), .int .i64 (most : Int), .pointer (some ⟨w.heap.size, 0, none⟩), .map (some (w.heap.size + 1))] 55) := ⟨_, rfl⟩
  refine ⟨w.heap.size + 2, w.heap.size, w.heap.size + 1, rfl, ?_, by omega, Nat.le_refl _, by omega, (((Fr.refl _ _).alloc _).alloc _).alloc _⟩
  have a1 := heap_alloc_new w (Obj.cells #[Value.slice none 0 0, Value.int IntKind.i64 0] 94)
  have f1 : Fr [] w (w.alloc (Obj.cells #[Value.slice none 0 0, Value.int IntKind.i64 0] 94)) := (Fr.refl [] w).alloc _
  have s1 : (w.alloc (Obj.cells #[Value.slice none 0 0, Value.int IntKind.i64 0] 94)).heap.size = w.heap.size + 1 := by simp
  generalize w.alloc (Obj.cells #[Value.slice none 0 0, Value.int IntKind.i64 0] 94) = w1 at a1 f1 s1 ⊢
  have t2 := pMap.made w1
  rw [s1] at t2
  have f2 : Fr [] w1 (w1.alloc (.map #[] 0)) := (Fr.refl [] w1).alloc _
  have s2 : (w1.alloc (.map #[] 0)).heap.size = w.heap.size + 2 := by simp [s1]
  generalize w1.alloc (.map #[] 0) = w2 at t2 f2 s2 ⊢
  have a3 := heap_alloc_new w2 (.cells #[.pointer (some ⟨y.d, 0, none⟩), .pointer (some ⟨y.p, 0, none⟩), .int .i64 (start : Int), .int .i64 (pages : Int), .int .i64 (most : Int), .pointer (some ⟨w.heap.size, 0, none⟩), .map (some (w.heap.size + 1))] 55)
  have f3 : Fr [] w2 (w2.alloc (.cells #[.pointer (some ⟨y.d, 0, none⟩), .pointer (some ⟨y.p, 0, none⟩), .int .i64 (start : Int), .int .i64 (pages : Int), .int .i64 (most : Int), .pointer (some ⟨w.heap.size, 0, none⟩), .map (some (w.heap.size + 1))] 55)) := (Fr.refl [] w2).alloc _
  rw [s2] at a3
  generalize w2.alloc (.cells #[.pointer (some ⟨y.d, 0, none⟩), .pointer (some ⟨y.p, 0, none⟩), .int .i64 (start : Int), .int .i64 (pages : Int), .int .i64 (most : Int), .pointer (some ⟨w.heap.size, 0, none⟩), .map (some (w.heap.size + 1))] 55) = w3 at a3 f3 ⊢
  have hlt := HH.out.dev.lt
  exact { lo := HH.out.kept ((f1.trans f2).trans f3) (by simp), box := a3, rn := ⟨(f2.trans f3).same (by simp) a1, ⟨by simp [slV], Or.inl ⟨rfl, rfl⟩⟩, fun f hf => (nomatch hf), by simp⟩, mp := ⟨_, t2.kept f3 (by simp), ⟨fun q hq => (nomatch hq), fun k b hk => (nomatch hk)⟩⟩, mne := ⟨by show w.heap.size + 1 ≠ y.bs; omega, by show w.heap.size + 1 ≠ y.bo; omega⟩, nod := by simp [ids], ok := fun f hf => (nomatch hf), hl := by show 0 ≤ most; omega, m0 := h3, m1 := h4, hh := fun e => by have e' : 0 = most := e; omega, hh0 := fun _ => rfl, p1 := h1, area := h2, dis := hdis }
end Go.Proofs.YtplboeplknggbaaGreat

