/-
  A span taken off bytes: the program's readSpan.
-/
import Derived.Test.YthajipigppndgaaGreatY05Z
namespace Go.Proofs.YthajipigppndgaaGreat
open Go.RowKit Go.Maps

/-- What a span's bytes say. -/
def spanD (l : List UInt8) (wo : Bool) : Option (Nat × Nat × List UInt8 × List UInt8) :=
  if l.length < 8 then none
  else if l.length - 8 ≠ (if wo = true then valL ((l.drop 6).take 2) else 0) + valL ((l.drop 6).take 2) then none
  else some (valL (l.take 4), valL ((l.drop 4).take 2), (l.drop 8).take (if wo = true then valL ((l.drop 6).take 2) else 0), (l.drop 8).drop (if wo = true then valL ((l.drop 6).take 2) else 0))

theorem RBox.s0 {w : World} {b : Nat} {r : Rec} {s : Spots} (h : RBox w b r s) (x : Int) : RBox (w.setCell ⟨b, 0, none⟩ (.int .i64 x)) b { r with lsn := x } s := heap_setCell_same w b 0 _ _ _ h
theorem RBox.s1 {w : World} {b : Nat} {r : Rec} {s : Spots} (h : RBox w b r s) (x : Int) : RBox (w.setCell ⟨b, 1, none⟩ (.int .i64 x)) b { r with turn := x } s := heap_setCell_same w b 1 _ _ _ h
theorem RBox.s3 {w : World} {b : Nat} {r : Rec} {s : Spots} (h : RBox w b r s) (x : Int) : RBox (w.setCell ⟨b, 3, none⟩ (.int .i64 x)) b { r with tx := x } s := heap_setCell_same w b 3 _ _ _ h
theorem RBox.s4 {w : World} {b : Nat} {r : Rec} {s : Spots} (h : RBox w b r s) (x : Int) : RBox (w.setCell ⟨b, 4, none⟩ (.int .i64 x)) b { r with prev := x } s := heap_setCell_same w b 4 _ _ _ h
theorem RBox.s5 {w : World} {b : Nat} {r : Rec} {s : Spots} (h : RBox w b r s) (x : Int) : RBox (w.setCell ⟨b, 5, none⟩ (.int .i64 x)) b { r with next := x } s := heap_setCell_same w b 5 _ _ _ h
theorem RBox.s6 {w : World} {b : Nat} {r : Rec} {s : Spots} (h : RBox w b r s) (x : Int) : RBox (w.setCell ⟨b, 6, none⟩ (.int .i64 x)) b { r with block := x } s := heap_setCell_same w b 6 _ _ _ h
theorem RBox.s7 {w : World} {b : Nat} {r : Rec} {s : Spots} (h : RBox w b r s) (x : Int) : RBox (w.setCell ⟨b, 7, none⟩ (.int .i64 x)) b { r with off := x } s := heap_setCell_same w b 7 _ _ _ h
theorem RBox.s2 {w : World} {b : Nat} {r : Rec} {s : Spots} (h : RBox w b r s) (x : Nat) : RBox (w.setCell ⟨b, 2, none⟩ (.int .u8 (x : Int))) b { r with kind := x } s := heap_setCell_same w b 2 _ _ _ h
theorem RBox.s8 {w : World} {b : Nat} {r : Rec} {s : Spots} (h : RBox w b r s) (ad : Option Addr) (l : List UInt8) (n : Nat) (hl : l.length = n) : RBox (w.setCell ⟨b, 8, none⟩ (.slice ad n n)) b { r with old := l } { s with a1 := ad, c1 := n } := by
  subst hl
  exact heap_setCell_same w b 8 _ _ _ h
theorem RBox.s9 {w : World} {b : Nat} {r : Rec} {s : Spots} (h : RBox w b r s) (ad : Option Addr) (l : List UInt8) (n : Nat) (hl : l.length = n) : RBox (w.setCell ⟨b, 9, none⟩ (.slice ad n n)) b { r with new := l } { s with a2 := ad, c2 := n } := by
  subst hl
  exact heap_setCell_same w b 9 _ _ _ h
theorem RBox.fz {w : World} {b : Nat} {r : Rec} {s : Spots} (h : RBox w b r s) (j : Nat) : w.frozen? ⟨b, j, none⟩ = false := frozen_of_row w b j _ _ h
theorem RBox.lt {w : World} {b : Nat} {r : Rec} {s : Spots} (h : RBox w b r s) : b < w.heap.size := (Array.getElem?_eq_some_iff.1 h).1
theorem fr_set (w : World) (b j : Nat) (v : Value) : Fr [b] w (w.setCell ⟨b, j, none⟩ v) := (Fr.refl [b] w).setCell _ _ (fun _ => by simp)

/-- Lists of a record that are new since a world, and apart. -/
structure NewSpots (w0 w : World) (r : Rec) (s : Spots) : Prop where
  o : CopAt w0 w s.a1 r.old
  n : CopAt w0 w s.a2 r.new
  c1 : s.c1 = r.old.length
  c2 : s.c2 = r.new.length
  ne : ∀ a b, s.a1 = some a → s.a2 = some b → a.block ≠ b.block
/-- What readSpan leaves. -/
def SpanTo (w : World) (p : Nat) (r : Rec) (l : List UInt8) (wo : Bool) (e : Ending) (w' : World) : Prop :=
  (spanD l wo = none ∧ e = .returned (.bool false) ∧ Fr [p] w w') ∨
  ∃ q s', spanD l wo = some q ∧ e = .returned (.bool true) ∧ RBox w' p { r with block := (q.1 : Int), off := (q.2.1 : Int), old := q.2.2.1, new := q.2.2.2 } s' ∧ NewSpots w w' { r with block := (q.1 : Int), off := (q.2.1 : Int), old := q.2.2.1, new := q.2.2.2 } s' ∧ Fr [p] w w'

set_option maxHeartbeats 400000 in
set_option maxRecDepth 100000 in
theorem readSpan_short (w : World) (p : Nat) (r : Rec) (g o n c : Nat) (l : List UInt8) (hl : l.length = n) (wo : Bool) (h8 : n < 8) :
    Calls Tryz.prog 303 #[.pointer (some ⟨p, 6, none⟩), .slice (some ⟨g, o, none⟩) n c, .bool wo] w fun e w' => SpanTo w p r l wo e w' := by
  have HL : Hid (l.length = n) := hl
  clear hl
  have h8' : (n : Int) < 8 := by omega
  go_enter Tryz.func303, Tryz.ntmps303
  go_wp2_with fail
  go_ret
  exact Or.inl ⟨by unfold spanD; rw [if_pos (by rw [HL.out]; exact h8)], rfl, (Fr.refl _ _).alloc _⟩

set_option maxHeartbeats 1000000 in
set_option maxRecDepth 100000 in
theorem readSpan_true (w : World) (p : Nat) (r : Rec) (s : Spots) (hr : RBox w p r s) (g o n c : Nat) (l : List UInt8) (hl : l.length = n) (hc : n ≤ c) (hn : n ≤ 100000) (hb : BytesAt w (some ⟨g, o, none⟩) l) (hgp : g ≠ p) (hgl : g < w.heap.size) (h8 : 8 ≤ n) :
    Calls Tryz.prog 303 #[.pointer (some ⟨p, 6, none⟩), .slice (some ⟨g, o, none⟩) n c, .bool true] w fun e w' => SpanTo w p r l true e w' := by
  have HL : Hid (l.length = n) := hl
  have h8' : ¬ (n : Int) < 8 := by omega
  have hp := hr.lt
  have hbx : SBox (w.alloc (.cells #[.slice (some ⟨g, o, none⟩) n c] 26)) w.heap.size (.slice (some ⟨g, o, none⟩) n c) := heap_alloc_new w _
  have f1 : Fr [p] w (w.alloc (.cells #[.slice (some ⟨g, o, none⟩) n c] 26)) := (Fr.refl [p] w).alloc _
  have r1 : RBox (w.alloc (.cells #[.slice (some ⟨g, o, none⟩) n c] 26)) p r s := hr.kept ((Fr.refl [] w).alloc _) (by simp)
  have b1 : BytesAt (w.alloc (.cells #[.slice (some ⟨g, o, none⟩) n c] 26)) (some ⟨g, o, none⟩) l := hb.kept ((Fr.refl [] w).alloc _) (by simp)
  clear hl
  go_enter Tryz.func303, Tryz.ntmps303
  go_wp2_with fail
  generalize w.alloc (.cells #[.slice (some ⟨g, o, none⟩) n c] 26) = w1 at hbx f1 r1 b1 ⊢
  have hgb : g ≠ w.heap.size := by omega
  have hpb : p ≠ w.heap.size := by omega
  obtain ⟨B, HB⟩ : ∃ B, Hid (w.heap.size = B) := ⟨_, rfl⟩
  rw [HB.out] at hbx hgb hpb ⊢
  refine (take32_any _ B g o n c l hbx HL.out (by omega) hc b1 hgb).mono ?_
  rintro e w2 ⟨rfl, o2, hbx2, b2, f2⟩
  have r2 := r1.kept f2 (by simpa using hpb)
  have F2 := f1.then f2 (fun i hi hm => by simp at hm; have := HB.out; omega)
  clear hbx f1 r1 b1 f2
  have u6 := r2.c6
  have z6 := r2.fz 6
  obtain ⟨V4, HV4⟩ : ∃ V4, Hid (valL (l.take 4) = V4) := ⟨_, rfl⟩
  have hV4 : V4 < 4294967296 := by
    have h := valL_lt (l.take 4)
    rw [List.length_take, HL.out, Nat.min_eq_left (by omega)] at h
    rw [← HV4.out]
    simpa using h
  rw [HV4.out]
  have hV4' : (V4 : Int) < 4294967296 := by omega
  go_wp2_with fail
  have r3 := r2.s6 V4
  have f3 := fr_set w2 p 6 (.int .i64 V4)
  have hbx3 := hbx2.kept f3 (by simpa using hpb.symm)
  have b3 := b2.kept f3 (fun b' off e => by cases e; simpa using hgp)
  have F3 := F2.trans f3
  clear u6 z6 r2 hbx2 b2 F2 f3
  generalize w2.setCell ⟨p, 6, none⟩ (.int .i64 V4) = w3 at r3 hbx3 b3 F3 ⊢
  refine (take16_any _ B g o2 (n - 4) (c - 4) (l.drop 4) hbx3 (by rw [List.length_drop, HL.out]) (by omega) (by omega) b3 hgb).mono ?_
  rintro e w4 ⟨rfl, o4, hbx4, b4, f4⟩
  have r4 := r3.kept f4 (by simpa using hpb)
  have F4 := F3.then f4 (fun i hi hm => by simp at hm; have := HB.out; omega)
  clear hbx3 r3 b3 f4 F3
  have u7 := r4.c7
  have z7 := r4.fz 7
  obtain ⟨V2, HV2⟩ : ∃ V2, Hid (valL ((l.drop 4).take 2) = V2) := ⟨_, rfl⟩
  have hV2 : V2 < 65536 := by
    have h := valL_lt ((l.drop 4).take 2)
    rw [List.length_take, List.length_drop, HL.out, Nat.min_eq_left (by omega)] at h
    rw [← HV2.out]
    simpa using h
  rw [HV2.out]
  have hV2' : (V2 : Int) < 65536 := by omega
  go_wp2_with fail
  have r5 := r4.s7 V2
  have f5 := fr_set w4 p 7 (.int .i64 V2)
  have hbx5 := hbx4.kept f5 (by simpa using hpb.symm)
  have b5 := b4.kept f5 (fun b' off e => by cases e; simpa using hgp)
  have F5 := F4.trans f5
  clear u7 z7 r4 hbx4 b4 F4 f5
  generalize w4.setCell ⟨p, 7, none⟩ (.int .i64 V2) = w5 at r5 hbx5 b5 F5 ⊢
  refine (take16_any _ B g o4 (n - 4 - 2) (c - 4 - 2) ((l.drop 4).drop 2) hbx5 (by rw [List.length_drop, List.length_drop, HL.out]) (by omega) (by omega) b5 hgb).mono ?_
  rintro e w6 ⟨rfl, o6, hbx6, b6, f6⟩
  have r6 := r5.kept f6 (by simpa using hpb)
  have F6 := F5.then f6 (fun i hi hm => by simp at hm; have := HB.out; omega)
  clear hbx5 r5 b5 f6 F5
  rw [List.drop_drop, List.drop_drop] at b6
  rw [List.drop_drop]
  obtain ⟨S, HS⟩ : ∃ S, Hid (valL ((l.drop 6).take 2) = S) := ⟨_, rfl⟩
  have hS : S < 65536 := by
    have h := valL_lt ((l.drop 6).take 2)
    rw [List.length_take, List.length_drop, HL.out, Nat.min_eq_left (by omega)] at h
    rw [← HS.out]
    simpa using h
  rw [HS.out]
  have hS' : (S : Int) < 65536 := by omega
  have hS0 : (0 : Int) ≤ S := by omega
  obtain ⟨M, HM⟩ : ∃ M, Hid (n - 4 - 2 - 2 = M) := ⟨_, rfl⟩
  obtain ⟨C, HC⟩ : ∃ C, Hid (c - 4 - 2 - 2 = C) := ⟨_, rfl⟩
  rw [HM.out, HC.out] at hbx6
  have HMC : Hid (M ≤ C) := hidI (by have h1 := HM.out; have h2 := HC.out; omega)
  have hM8 : Hid (M + 8 = n) := hidI (by have h1 := HM.out; omega)
  clear h8'
  have ux := hbx6.cell
  have hwS : IntKind.i64.wrap ((S : Int) + (S : Int)) = (S : Int) + (S : Int) := by simp [IntKind.wrap, IntKind.signed, IntKind.bits]; omega
  have hsp : spanD l true = if M ≠ S + S then none else some (V4, V2, (l.drop 8).take S, (l.drop 8).drop S) := by
    have h8 := hM8.out
    unfold spanD
    rw [if_neg (by rw [HL.out]; omega), HL.out, HS.out, HV4.out, HV2.out, show n - 8 = M by omega]
    rfl
  have HSP := hidI hsp
  clear hsp
  by_cases hMS : M = S + S
  · have hms : ((M : Int) != (S : Int) + (S : Int)) = false := by rw [bne_eq_false_iff_eq]; omega
    have hle : ((S : Int) : Int) ≤ C := by have h1 := HMC.out; omega
    have hleM : ((S : Int) : Int) ≤ M := by omega
    have HMS := hidI hMS
    clear hMS
    go_wp2_with fail
    have b8 : BytesAt w6 (some ⟨g, o6, none⟩) (l.drop 8) := b6
    have hl8 : (l.drop 8).length = M := by have h1 := hM8.out; rw [List.length_drop, HL.out]; omega
    have hMl : M ≤ 100000 := by have h1 := hM8.out; omega
    have HS8 : Hid (spanD l true = some (V4, V2, (l.drop 8).take S, (l.drop 8).drop S)) := hidI (by rw [HSP.out, if_neg (fun h => h HMS.out)])
    clear b6 HSP hM8
    generalize l.drop 8 = L8 at b8 hl8 HS8
    have hl1 : (L8.take S).length = S := by rw [List.length_take, hl8]; omega
    have hb1 : BytesAt w6 (some ⟨g, o6, none⟩) (L8.take S) := by simpa using b8.sub 0 S
    refine (copied_any w6 _ S C (L8.take S) hl1 hb1 (by omega)).mono ?_
    rintro e w7 ⟨ad7, rfl, cp7, f7⟩
    have r7 := r6.kept f7 (by simp)
    have hbx7 := hbx6.kept f7 (by simp)
    have b7 := b8.kept f7 (by simp)
    have F7 := F6.trans (f7.mono (M := [p]) (fun _ _ e => nomatch e))
    have u8 := r7.c8
    have z8 := r7.fz 8
    have ux := hbx7.cell
    have hs67 : w.heap.size ≤ w6.heap.size := F6.size
    clear r6 hbx6 b8 hb1 F6 f7
    obtain ⟨o9, HO, hdp⟩ := take_at C S g o6
    have HX8 : Hid (SBox (w7.setCell ⟨p, 8, none⟩ (.slice ad7 S S)) B (.slice (some ⟨g, o6, none⟩) M C)) := hidI (hbx7.kept (fr_set w7 p 8 _) (by simpa using hpb.symm))
    have ux8 := HX8.out.cell
    go_wp2_with fail
    have r8 := r7.s8 ad7 (L8.take S) S hl1
    have f8 := fr_set w7 p 8 (.slice ad7 S S)
    have F8 := F7.trans f8
    have cp8 := cp7.kept f8 (fun g' hg' cur t h => by simp at hg'; subst hg'; rw [r7] at h; cases h; decide)
    have b9 : BytesAt (w7.setCell ⟨p, 8, none⟩ (.slice ad7 S S)) (some ⟨g, o9, none⟩) (L8.drop S) := by
      rcases HO.out with e | rfl
      · have : L8.drop S = [] := List.drop_eq_nil_of_le (by have h1 := HMC.out; omega)
        rw [this]
        exact BytesAt.nil _ _
      · have := (b7.sub S (L8.length - S)).kept f8 (fun b' off e => by cases e; simpa using hgp)
        rwa [List.take_of_length_le (by simp)] at this
    have hl9 : (L8.drop S).length = M - S := by rw [List.length_drop, hl8]
    clear u8 z8 ux ux8 hdp r7 F7 cp7 b7 f8 hbx7
    generalize w7.setCell ⟨p, 8, none⟩ (.slice ad7 S S) = w8 at r8 F8 cp8 b9 HX8 ⊢
    refine (copied_any w8 _ (M - S) (C - S) (L8.drop S) hl9 b9 (by omega)).mono ?_
    rintro e w9 ⟨ad9, rfl, cp9, f9⟩
    have r9 := r8.kept f9 (by simp)
    have F9 := F8.trans (f9.mono (M := [p]) (fun _ _ e => nomatch e))
    have cq9 := cp8.kept f9 (fun g' hg' => nomatch hg')
    have u9 := r9.c9
    have z9 := r9.fz 9
    have hs8 := F8.size
    have HA : Hid (∀ a, ad7 = some a → a.block < w8.heap.size) := hidI (fun a e => by obtain ⟨g', rfl, _, b, _⟩ := cp8.at' a e; exact b.lt)
    have HB9 : Hid (∀ a, ad9 = some a → w8.heap.size ≤ a.block) := hidI (fun a e => by obtain ⟨g', rfl, h, _⟩ := cp9.at' a e; exact h)
    clear r8 F8 cp8 b9 HX8 f9
    go_wp2_with fail
    go_ret
    have f10 := fr_set w9 p 9 (.slice ad9 (M - S) (M - S))
    have hcp : ∀ g' ∈ [p], ∀ cur t, w9.heap[g']? = some (.cells cur t) → t ≠ 5 := fun g' hg' cur t h => by
      simp at hg'
      subst hg'
      rw [r9] at h
      cases h
      decide
    have k1 := cq9.kept f10 hcp
    have k2 := cp9.kept f10 hcp
    have r10 := r9.s9 ad9 (L8.drop S) (M - S) hl9
    refine Or.inr ⟨_, _, HS8.out, rfl, r10, ⟨⟨k1.nil, ?_⟩, ⟨k2.nil, ?_⟩, hl1.symm, hl9.symm, ?_⟩, F9.trans f10⟩
    · intro a e
      obtain ⟨g', e1, h1, h2⟩ := k1.at' a e
      exact ⟨g', e1, by omega, h2⟩
    · intro a e
      obtain ⟨g', e1, h1, h2⟩ := k2.at' a e
      exact ⟨g', e1, by omega, h2⟩
    · intro a b e1 e2
      have h1 := HA.out a e1
      have h2 := HB9.out b e2
      omega
  · have hms : ((M : Int) != (S : Int) + (S : Int)) = true := by rw [bne_iff_ne]; omega
    go_wp2_with fail
    go_ret
    exact Or.inl ⟨by rw [HSP.out, if_pos hMS], rfl, F6⟩

set_option maxHeartbeats 1000000 in
set_option maxRecDepth 100000 in
theorem readSpan_false (w : World) (p : Nat) (r : Rec) (s : Spots) (hr : RBox w p r s) (g o n c : Nat) (l : List UInt8) (hl : l.length = n) (hc : n ≤ c) (hn : n ≤ 100000) (hb : BytesAt w (some ⟨g, o, none⟩) l) (hgp : g ≠ p) (hgl : g < w.heap.size) (h8 : 8 ≤ n) :
    Calls Tryz.prog 303 #[.pointer (some ⟨p, 6, none⟩), .slice (some ⟨g, o, none⟩) n c, .bool false] w fun e w' => SpanTo w p r l false e w' := by
  have HL : Hid (l.length = n) := hl
  have h8' : ¬ (n : Int) < 8 := by omega
  have hp := hr.lt
  have hbx : SBox (w.alloc (.cells #[.slice (some ⟨g, o, none⟩) n c] 26)) w.heap.size (.slice (some ⟨g, o, none⟩) n c) := heap_alloc_new w _
  have f1 : Fr [p] w (w.alloc (.cells #[.slice (some ⟨g, o, none⟩) n c] 26)) := (Fr.refl [p] w).alloc _
  have r1 : RBox (w.alloc (.cells #[.slice (some ⟨g, o, none⟩) n c] 26)) p r s := hr.kept ((Fr.refl [] w).alloc _) (by simp)
  have b1 : BytesAt (w.alloc (.cells #[.slice (some ⟨g, o, none⟩) n c] 26)) (some ⟨g, o, none⟩) l := hb.kept ((Fr.refl [] w).alloc _) (by simp)
  clear hl
  go_enter Tryz.func303, Tryz.ntmps303
  go_wp2_with fail
  generalize w.alloc (.cells #[.slice (some ⟨g, o, none⟩) n c] 26) = w1 at hbx f1 r1 b1 ⊢
  have hgb : g ≠ w.heap.size := by omega
  have hpb : p ≠ w.heap.size := by omega
  obtain ⟨B, HB⟩ : ∃ B, Hid (w.heap.size = B) := ⟨_, rfl⟩
  rw [HB.out] at hbx hgb hpb ⊢
  refine (take32_any _ B g o n c l hbx HL.out (by omega) hc b1 hgb).mono ?_
  rintro e w2 ⟨rfl, o2, hbx2, b2, f2⟩
  have r2 := r1.kept f2 (by simpa using hpb)
  have F2 := f1.then f2 (fun i hi hm => by simp at hm; have := HB.out; omega)
  clear hbx f1 r1 b1 f2
  have u6 := r2.c6
  have z6 := r2.fz 6
  obtain ⟨V4, HV4⟩ : ∃ V4, Hid (valL (l.take 4) = V4) := ⟨_, rfl⟩
  have hV4 : V4 < 4294967296 := by
    have h := valL_lt (l.take 4)
    rw [List.length_take, HL.out, Nat.min_eq_left (by omega)] at h
    rw [← HV4.out]
    simpa using h
  rw [HV4.out]
  have hV4' : (V4 : Int) < 4294967296 := by omega
  go_wp2_with fail
  have r3 := r2.s6 V4
  have f3 := fr_set w2 p 6 (.int .i64 V4)
  have hbx3 := hbx2.kept f3 (by simpa using hpb.symm)
  have b3 := b2.kept f3 (fun b' off e => by cases e; simpa using hgp)
  have F3 := F2.trans f3
  clear u6 z6 r2 hbx2 b2 F2 f3
  generalize w2.setCell ⟨p, 6, none⟩ (.int .i64 V4) = w3 at r3 hbx3 b3 F3 ⊢
  refine (take16_any _ B g o2 (n - 4) (c - 4) (l.drop 4) hbx3 (by rw [List.length_drop, HL.out]) (by omega) (by omega) b3 hgb).mono ?_
  rintro e w4 ⟨rfl, o4, hbx4, b4, f4⟩
  have r4 := r3.kept f4 (by simpa using hpb)
  have F4 := F3.then f4 (fun i hi hm => by simp at hm; have := HB.out; omega)
  clear hbx3 r3 b3 f4 F3
  have u7 := r4.c7
  have z7 := r4.fz 7
  obtain ⟨V2, HV2⟩ : ∃ V2, Hid (valL ((l.drop 4).take 2) = V2) := ⟨_, rfl⟩
  have hV2 : V2 < 65536 := by
    have h := valL_lt ((l.drop 4).take 2)
    rw [List.length_take, List.length_drop, HL.out, Nat.min_eq_left (by omega)] at h
    rw [← HV2.out]
    simpa using h
  rw [HV2.out]
  have hV2' : (V2 : Int) < 65536 := by omega
  go_wp2_with fail
  have r5 := r4.s7 V2
  have f5 := fr_set w4 p 7 (.int .i64 V2)
  have hbx5 := hbx4.kept f5 (by simpa using hpb.symm)
  have b5 := b4.kept f5 (fun b' off e => by cases e; simpa using hgp)
  have F5 := F4.trans f5
  clear u7 z7 r4 hbx4 b4 F4 f5
  generalize w4.setCell ⟨p, 7, none⟩ (.int .i64 V2) = w5 at r5 hbx5 b5 F5 ⊢
  refine (take16_any _ B g o4 (n - 4 - 2) (c - 4 - 2) ((l.drop 4).drop 2) hbx5 (by rw [List.length_drop, List.length_drop, HL.out]) (by omega) (by omega) b5 hgb).mono ?_
  rintro e w6 ⟨rfl, o6, hbx6, b6, f6⟩
  have r6 := r5.kept f6 (by simpa using hpb)
  have F6 := F5.then f6 (fun i hi hm => by simp at hm; have := HB.out; omega)
  clear hbx5 r5 b5 f6 F5
  rw [List.drop_drop, List.drop_drop] at b6
  rw [List.drop_drop]
  obtain ⟨S, HS⟩ : ∃ S, Hid (valL ((l.drop 6).take 2) = S) := ⟨_, rfl⟩
  have hS : S < 65536 := by
    have h := valL_lt ((l.drop 6).take 2)
    rw [List.length_take, List.length_drop, HL.out, Nat.min_eq_left (by omega)] at h
    rw [← HS.out]
    simpa using h
  rw [HS.out]
  have hS' : (S : Int) < 65536 := by omega
  have hS0 : (0 : Int) ≤ S := by omega
  obtain ⟨M, HM⟩ : ∃ M, Hid (n - 4 - 2 - 2 = M) := ⟨_, rfl⟩
  obtain ⟨C, HC⟩ : ∃ C, Hid (c - 4 - 2 - 2 = C) := ⟨_, rfl⟩
  rw [HM.out, HC.out] at hbx6
  have HMC : Hid (M ≤ C) := hidI (by have h1 := HM.out; have h2 := HC.out; omega)
  have hM8 : Hid (M + 8 = n) := hidI (by have h1 := HM.out; omega)
  clear h8'
  have ux := hbx6.cell
  have hwS : IntKind.i64.wrap ((S : Int)) = (S : Int) := by simp [IntKind.wrap, IntKind.signed, IntKind.bits]; omega
  have hsp : spanD l false = if M ≠ 0 + S then none else some (V4, V2, (l.drop 8).take 0, (l.drop 8).drop 0) := by
    have h8 := hM8.out
    unfold spanD
    rw [if_neg (by rw [HL.out]; omega), HL.out, HS.out, HV4.out, HV2.out, show n - 8 = M by omega]
    rfl
  have HSP := hidI hsp
  clear hsp
  by_cases hMS : M = 0 + S
  · have hms : ((M : Int) != (S : Int)) = false := by rw [bne_eq_false_iff_eq]; omega
    have hle : (0 : Int) ≤ C := by have h1 := HMC.out; omega
    have hleM : (0 : Int) ≤ M := by omega
    have HMS := hidI hMS
    clear hMS
    go_wp2_with fail
    have b8 : BytesAt w6 (some ⟨g, o6, none⟩) (l.drop 8) := b6
    have hl8 : (l.drop 8).length = M := by have h1 := hM8.out; rw [List.length_drop, HL.out]; omega
    have hMl : M ≤ 100000 := by have h1 := hM8.out; omega
    have HS8 : Hid (spanD l false = some (V4, V2, (l.drop 8).take 0, (l.drop 8).drop 0)) := hidI (by rw [HSP.out, if_neg (fun h => h HMS.out)])
    clear b6 HSP hM8
    generalize l.drop 8 = L8 at b8 hl8 HS8
    have hl1 : (L8.take 0).length = 0 := by rw [List.length_take, hl8]; omega
    have hb1 : BytesAt w6 (some ⟨g, o6, none⟩) (L8.take 0) := by simpa using b8.sub 0 0
    refine (copied_any w6 _ 0 C (L8.take 0) hl1 hb1 (by omega)).mono ?_
    rintro e w7 ⟨ad7, rfl, cp7, f7⟩
    have r7 := r6.kept f7 (by simp)
    have hbx7 := hbx6.kept f7 (by simp)
    have b7 := b8.kept f7 (by simp)
    have F7 := F6.trans (f7.mono (M := [p]) (fun _ _ e => nomatch e))
    have u8 := r7.c8
    have z8 := r7.fz 8
    have ux := hbx7.cell
    have hs67 : w.heap.size ≤ w6.heap.size := F6.size
    clear r6 hbx6 b8 hb1 F6 f7
    have HO : Hid (C = 0 ∨ o6 = o6 + 0) := hidI (Or.inr rfl)
    have hdp : (0 : Int) ≤ 0 := (by omega)
    have HX8 : Hid (SBox (w7.setCell ⟨p, 8, none⟩ (.slice ad7 0 0)) B (.slice (some ⟨g, o6, none⟩) M C)) := hidI (hbx7.kept (fr_set w7 p 8 _) (by simpa using hpb.symm))
    have ux8 := HX8.out.cell
    go_wp2_with fail
    have r8 := r7.s8 ad7 (L8.take 0) 0 hl1
    have f8 := fr_set w7 p 8 (.slice ad7 0 0)
    have F8 := F7.trans f8
    have cp8 := cp7.kept f8 (fun g' hg' cur t h => by simp at hg'; subst hg'; rw [r7] at h; cases h; decide)
    have b9 : BytesAt (w7.setCell ⟨p, 8, none⟩ (.slice ad7 0 0)) (some ⟨g, o6, none⟩) (L8.drop 0) := by
      rcases HO.out with e | e
      · have : L8.drop 0 = [] := List.drop_eq_nil_of_le (by have h1 := HMC.out; omega)
        rw [this]
        exact BytesAt.nil _ _
      · have := (b7.sub 0 (L8.length - 0)).kept f8 (fun b' off e => by cases e; simpa using hgp)
        rwa [List.take_of_length_le (by simp)] at this
    have hl9 : (L8.drop 0).length = M - 0 := by rw [List.length_drop, hl8]
    clear u8 z8 ux ux8 hdp r7 F7 cp7 b7 f8 hbx7
    generalize w7.setCell ⟨p, 8, none⟩ (.slice ad7 0 0) = w8 at r8 F8 cp8 b9 HX8 ⊢
    refine (copied_any w8 _ M C (L8.drop 0) hl9 b9 (by omega)).mono ?_
    rintro e w9 ⟨ad9, rfl, cp9, f9⟩
    have r9 := r8.kept f9 (by simp)
    have F9 := F8.trans (f9.mono (M := [p]) (fun _ _ e => nomatch e))
    have cq9 := cp8.kept f9 (fun g' hg' => nomatch hg')
    have u9 := r9.c9
    have z9 := r9.fz 9
    have hs8 := F8.size
    have HA : Hid (∀ a, ad7 = some a → a.block < w8.heap.size) := hidI (fun a e => by obtain ⟨g', rfl, _, b, _⟩ := cp8.at' a e; exact b.lt)
    have HB9 : Hid (∀ a, ad9 = some a → w8.heap.size ≤ a.block) := hidI (fun a e => by obtain ⟨g', rfl, h, _⟩ := cp9.at' a e; exact h)
    clear r8 F8 cp8 b9 HX8 f9
    go_wp2_with fail
    go_ret
    have f10 := fr_set w9 p 9 (.slice ad9 M M)
    have hcp : ∀ g' ∈ [p], ∀ cur t, w9.heap[g']? = some (.cells cur t) → t ≠ 5 := fun g' hg' cur t h => by
      simp at hg'
      subst hg'
      rw [r9] at h
      cases h
      decide
    have k1 := cq9.kept f10 hcp
    have k2 := cp9.kept f10 hcp
    have r10 := r9.s9 ad9 (L8.drop 0) M hl9
    refine Or.inr ⟨_, _, HS8.out, rfl, r10, ⟨⟨k1.nil, ?_⟩, ⟨k2.nil, ?_⟩, hl1.symm, hl9.symm, ?_⟩, F9.trans f10⟩
    · intro a e
      obtain ⟨g', e1, h1, h2⟩ := k1.at' a e
      exact ⟨g', e1, by omega, h2⟩
    · intro a e
      obtain ⟨g', e1, h1, h2⟩ := k2.at' a e
      exact ⟨g', e1, by omega, h2⟩
    · intro a b e1 e2
      have h1 := HA.out a e1
      have h2 := HB9.out b e2
      omega
  · have hms : ((M : Int) != (S : Int)) = true := by rw [bne_iff_ne]; omega
    go_wp2_with fail
    go_ret
    exact Or.inl ⟨by rw [HSP.out, if_pos hMS], rfl, F6⟩

theorem readSpan_any (w : World) (p : Nat) (r : Rec) (s : Spots) (hr : RBox w p r s) (g o n c : Nat) (l : List UInt8) (hl : l.length = n) (hc : n ≤ c) (hn : n ≤ 100000) (hb : BytesAt w (some ⟨g, o, none⟩) l) (hgp : g ≠ p) (hgl : g < w.heap.size) (wo : Bool) :
    Calls Tryz.prog 303 #[.pointer (some ⟨p, 6, none⟩), .slice (some ⟨g, o, none⟩) n c, .bool wo] w fun e w' => SpanTo w p r l wo e w' := by
  by_cases h8 : n < 8
  · exact readSpan_short w p r g o n c l hl wo h8
  · cases wo
    · exact readSpan_false w p r s hr g o n c l hl hc hn hb hgp hgl (by omega)
    · exact readSpan_true w p r s hr g o n c l hl hc hn hb hgp hgl (by omega)

end Go.Proofs.YthajipigppndgaaGreat

