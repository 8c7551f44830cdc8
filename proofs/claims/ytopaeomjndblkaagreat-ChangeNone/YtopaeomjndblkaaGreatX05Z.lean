/-
  A log made safe: the program's letGo and Force, where the log is in its first sector.
-/
import Derived.Test.YtopaeomjndblkaaGreatX04Z
import Derived.Deep.CutRange
namespace Go.Proofs.YtopaeomjndblkaaGreat
open Go.RowKit Go.Maps

set_option maxHeartbeats 1000000 in
set_option maxRecDepth 100000 in
theorem record_any (w : World) (p : Nat) (dv : Value) (first count turn oldest safe fin k0 k : Int) (ls : Value) (g N c o n C : Nat) (lb : List UInt8) (m : Nat) (r : Rec) (hx : LBox w p ⟨dv, first, count, turn, oldest, safe, fin, .slice (some ⟨g, 0, none⟩) N c, k0, ls⟩) (hb : BytesAt w (some ⟨g, 0, none⟩) lb) (hl : lb.length = N) (ho : o < N) (hN : N = o + n) (hC : c = o + C) (hn : n ≤ 100000) (hc : N ≤ c) (hk : IntKind.i64.wrap (k - k0) = (o : Int)) (hd : decR (lb.drop o) = some (r, m)) :
    Calls Tryz.prog 236 #[.pointer (some ⟨p, 0, none⟩), .int .i64 k] w fun e w' => ∃ s, e = .returned (.agg (recV r s)) ∧ NewSpots w w' r s ∧ Fr [] w w' := by
  have hc0 : ¬ c = o := by omega
  have hnc : (N : Int) ≤ c := by omega
  have hon : (o : Int) ≤ N := by omega
  have hnn : (0 : Int) ≤ o := by omega
  have e1 : N - o = n := by omega
  have e2 : c - o = C := by omega
  have b0 : BytesAt w (some ⟨g, 0 + o, none⟩) ((lb.drop o).take n) := hb.sub o n
  have hdl : (lb.drop o).length = n := by rw [List.length_drop]; omega
  rw [List.take_of_length_le (by omega), Nat.zero_add] at b0
  have HCC : Hid (n ≤ C) := hidI (by omega)
  have HDL := hidI hdl
  have HN := hidI hN
  have HC := hidI hC
  clear hdl hN hC hb hl hc
  have rR : RBox (w.alloc (.cells #[.int .i64 0, .int .i64 0, .int .u8 0, .int .i64 0, .int .i64 0, .int .i64 0, .int .i64 0, .int .i64 0, .slice none 0 0, .slice none 0 0] 192)) w.heap.size (zeroR 0 0) zeroS := heap_alloc_new w _
  have f1 := (Fr.refl [] w).alloc (.cells #[.int .i64 0, .int .i64 0, .int .u8 0, .int .i64 0, .int .i64 0, .int .i64 0, .int .i64 0, .int .i64 0, .slice none 0 0, .slice none 0 0] 192)
  go_enter Tryz.func236, Tryz.ntmps236
  go_wp2_with fail
  generalize w.alloc (.cells #[.int .i64 0, .int .i64 0, .int .u8 0, .int .i64 0, .int .i64 0, .int .i64 0, .int .i64 0, .int .i64 0, .slice none 0 0, .slice none 0 0] 192) = w1 at rR f1 ⊢
  have L1 := hx.kept f1 (by simp)
  have b1 := b0.kept f1 (by simp)
  go_cut [5] from 9 (fun s5 wx => ∃ Z s, s5 = .pointer (some ⟨Z, 0, none⟩) ∧ RBox wx Z r s ∧ NewSpots w1 wx r s ∧ Fr [] w1 wx)
  case first => as_aux_lemma =>
    have SG : Hid (∀ w', Fr [] w1 w' → Calls Tryz.prog 227 #[.slice (some ⟨g, o, none⟩) n C] w' fun e w'' => ∃ s, e = .returned (.tuple #[.agg (recV r s), .int .i64 (m : Int), .int .i64 0]) ∧ Hid (NewSpots w' w'' r s ∧ Fr [] w' w'')) := hidI (fun w' f => (get_any w' _ n C (lb.drop o) HDL.out HCC.out hn (b1.kept f (by simp))).mono (by
      rintro e w'' h
      rcases h with ⟨h1, _⟩ | ⟨r2, n2, s, h1, rfl, h2, h3⟩
      · rw [hd] at h1; cases h1
      · rw [hd] at h1; cases h1; exact ⟨s, rfl, hidI ⟨h2, h3⟩⟩))
    unfold recV at SG
    have HL1 := hidI L1
    refine wp_region_held_drew (S := fun w' => Fr [] w1 w') (by kernel_rfl) (Fr.refl _ _).drew (fun hHeld => ?_)
    refine wpAnyH_take (i := 0) (v := ?_) rfl (by kernel_rfl) (by kernel_rfl) (by kernel_rfl) (fun _ _ _ h => h) (Or.inl ⟨by kernel_rfl, ?_⟩) hHeld ?_
    rotate_left
    · intro w' hSw
      go_simp
      try with_reducible rfl
    try simp only [Act.put, List.getElem_toArray, List.getElem_cons_zero, List.setIfInBounds_toArray, List.set_cons_zero, List.set_cons_succ]
    refine wpAnyH_take (i := 1) (v := ?_) rfl (by kernel_rfl) (by kernel_rfl) (by kernel_rfl) (fun _ _ _ h => h) (Or.inl ⟨by kernel_rfl, ?_⟩) hHeld ?_
    rotate_left
    · intro w' hSw
      go_simp
      try with_reducible rfl
    try simp only [Act.put, List.getElem_toArray, List.getElem_cons_succ, List.getElem_cons_zero, List.setIfInBounds_toArray, List.set_cons_zero, List.set_cons_succ]
    refine wpAnyH_take (i := 2) (v := ?_) rfl (by kernel_rfl) (by kernel_rfl) (by kernel_rfl) (fun _ _ _ h => h) (Or.inl ⟨by kernel_rfl, ?_⟩) hHeld ?_
    rotate_left
    · intro w' hSw
      go_simp
      try with_reducible rfl
    try simp only [Act.put, List.getElem_toArray, List.getElem_cons_succ, List.getElem_cons_zero, List.setIfInBounds_toArray, List.set_cons_zero, List.set_cons_succ]
    refine wpAnyH_take (i := 3) (v := ?_) rfl (by kernel_rfl) (by kernel_rfl) (by kernel_rfl) (fun _ _ _ h => h) (Or.inl ⟨by kernel_rfl, ?_⟩) hHeld ?_
    rotate_left
    · intro w' hSw
      have k7 : w'.cell? ⟨p, 7, none⟩ = some (.slice (some ⟨g, 0, none⟩) N c) := (HL1.out.kept hSw (by simp)).c7
      go_simp
      try with_reducible rfl
    try simp only [Act.put, List.getElem_toArray, List.getElem_cons_succ, List.getElem_cons_zero, List.setIfInBounds_toArray, List.set_cons_zero, List.set_cons_succ]
    refine wpAnyH_take (i := 4) (v := ?_) rfl (by kernel_rfl) (by kernel_rfl) (by kernel_rfl) (fun _ _ _ h => h) (Or.inl ⟨by kernel_rfl, ?_⟩) hHeld ?_
    rotate_left
    · intro w' hSw
      go_simp
      try with_reducible rfl
    try simp only [Act.put, List.getElem_toArray, List.getElem_cons_succ, List.getElem_cons_zero, List.setIfInBounds_toArray, List.set_cons_zero, List.set_cons_succ]
    refine wpAnyH_take (i := 5) (v := ?_) rfl (by kernel_rfl) (by kernel_rfl) (by kernel_rfl) (fun _ _ _ h => h) (Or.inl ⟨by kernel_rfl, ?_⟩) hHeld ?_
    rotate_left
    · intro w' hSw
      go_simp
      try with_reducible rfl
    try simp only [Act.put, List.getElem_toArray, List.getElem_cons_succ, List.getElem_cons_zero, List.setIfInBounds_toArray, List.set_cons_zero, List.set_cons_succ]
    refine wpAnyH_take (i := 6) (v := ?_) rfl (by kernel_rfl) (by kernel_rfl) (by kernel_rfl) (fun _ _ _ h => h) (Or.inl ⟨by kernel_rfl, ?_⟩) hHeld ?_
    rotate_left
    · intro w' hSw
      go_simp
      try with_reducible rfl
    try simp only [Act.put, List.getElem_toArray, List.getElem_cons_succ, List.getElem_cons_zero, List.setIfInBounds_toArray, List.set_cons_zero, List.set_cons_succ]
    refine wpAnyH_take (i := 7) (v := ?_) rfl (by kernel_rfl) (by kernel_rfl) (by kernel_rfl) (fun _ _ _ h => h) (Or.inl ⟨by kernel_rfl, ?_⟩) hHeld ?_
    rotate_left
    · intro w' hSw
      go_simp
      try with_reducible rfl
    try simp only [Act.put, List.getElem_toArray, List.getElem_cons_succ, List.getElem_cons_zero, List.setIfInBounds_toArray, List.set_cons_zero, List.set_cons_succ]
    refine wpAnyH_take (i := 8) (v := ?_) rfl (by kernel_rfl) (by kernel_rfl) (by kernel_rfl) (fun _ _ _ h => h) (Or.inl ⟨by kernel_rfl, ?_⟩) hHeld ?_
    rotate_left
    · intro w' hSw
      have k8 : w'.cell? ⟨p, 8, none⟩ = some (.int .i64 k0) := (HL1.out.kept hSw (by simp)).c8
      go_simp
      try with_reducible rfl
    try simp only [Act.put, List.getElem_toArray, List.getElem_cons_succ, List.getElem_cons_zero, List.setIfInBounds_toArray, List.set_cons_zero, List.set_cons_succ]
    refine wpAnyH_take (i := 9) (v := ?_) rfl (by kernel_rfl) (by kernel_rfl) (by kernel_rfl) (fun _ _ _ h => h) (Or.inl ⟨by kernel_rfl, ?_⟩) hHeld ?_
    rotate_left
    · intro w' hSw
      go_simp
      try with_reducible rfl
    try simp only [Act.put, List.getElem_toArray, List.getElem_cons_succ, List.getElem_cons_zero, List.setIfInBounds_toArray, List.set_cons_zero, List.set_cons_succ]
    refine wpAnyH_take (i := 10) (v := ?_) rfl (by kernel_rfl) (by kernel_rfl) (by kernel_rfl) (fun _ _ _ h => h) (Or.inl ⟨by kernel_rfl, ?_⟩) hHeld ?_
    rotate_left
    · intro w' hSw
      go_simp
      try with_reducible rfl
    try simp only [Act.put, List.getElem_toArray, List.getElem_cons_succ, List.getElem_cons_zero, List.setIfInBounds_toArray, List.set_cons_zero, List.set_cons_succ]
    refine wpAnyH_ready (rs := [11, 16]) (by kernel_rfl) (by simp) ?_
    refine AllReadyH.cons rfl (fun K hK => ?_) (AllReadyH.cons rfl (fun K hK => ?_) AllReadyH.nil)
    · rw [if_pos (by kernel_rfl)]
      go_wp2_with (go_at_call 227; refine (SG.out _ hHeld).mono ?_; rintro e w7 ⟨s, rfl, HS⟩)
      refine hK.out _ _ (hHeld.trans HS.out.2) (fun hHeld => ?_)
      clear hK K
      try simp only [Act.put, List.getElem_toArray, List.getElem_cons_succ, List.getElem_cons_zero, List.setIfInBounds_toArray, List.set_cons_zero, List.set_cons_succ]
      refine wpAnyH_take (i := 12) (v := ?_) rfl (by kernel_rfl) (by kernel_rfl) (by kernel_rfl) (fun _ _ _ h => h) (Or.inl ⟨by kernel_rfl, ?_⟩) hHeld ?_
      rotate_left
      · intro w' hSw
        go_simp
        try with_reducible rfl
      try simp only [Act.put, List.getElem_toArray, List.getElem_cons_succ, List.getElem_cons_zero, List.setIfInBounds_toArray, List.set_cons_zero, List.set_cons_succ]
      refine wpAnyH_take (i := 13) (v := ?_) rfl (by kernel_rfl) (by kernel_rfl) (by kernel_rfl) (fun _ _ _ h => h) (Or.inl ⟨by kernel_rfl, ?_⟩) hHeld ?_
      rotate_left
      · intro w' hSw
        go_simp
        try with_reducible rfl
      try simp only [Act.put, List.getElem_toArray, List.getElem_cons_succ, List.getElem_cons_zero, List.setIfInBounds_toArray, List.set_cons_zero, List.set_cons_succ]
      refine wpAnyH_take (i := 14) (v := ?_) rfl (by kernel_rfl) (by kernel_rfl) (by kernel_rfl) (fun _ _ _ h => h) (Or.inl ⟨by kernel_rfl, ?_⟩) hHeld ?_
      rotate_left
      · intro w' hSw
        go_simp
        try with_reducible rfl
      try simp only [Act.put, List.getElem_toArray, List.getElem_cons_succ, List.getElem_cons_zero, List.setIfInBounds_toArray, List.set_cons_zero, List.set_cons_succ]
      refine wpAnyH_take (i := 15) (v := ?_) rfl (by kernel_rfl) (by kernel_rfl) (by kernel_rfl) (fun _ _ _ h => h) (Or.inl ⟨by kernel_rfl, ?_⟩) hHeld ?_
      rotate_left
      · intro w' hSw
        go_simp
        try with_reducible rfl
      try simp only [Act.put, List.getElem_toArray, List.getElem_cons_succ, List.getElem_cons_zero, List.setIfInBounds_toArray, List.set_cons_zero, List.set_cons_succ]
      refine wpAnyH_ready (rs := [16]) (by kernel_rfl) (by simp) ?_
      refine AllReadyH.cons rfl (fun K hK => ?_) AllReadyH.nil
      rw [if_pos (by kernel_rfl)]
      go_wp2_with fail
      refine hK.out _ _ (hHeld.alloc _) (fun hHeld => ?_)
      clear hK K
      try simp only [Act.put, List.getElem_toArray, List.getElem_cons_succ, List.getElem_cons_zero, List.setIfInBounds_toArray, List.set_cons_zero, List.set_cons_succ]
      have hz : RBox (w7.alloc (.cells #[.int .i64 0, .int .i64 0, .int .u8 0, .int .i64 0, .int .i64 0, .int .i64 0, .int .i64 0, .int .i64 0, .slice none 0 0, .slice none 0 0] 192)) w7.heap.size (zeroR 0 0) zeroS := heap_alloc_new w7 _
      have ns9 := HS.out.1
      have hs9 : w1.heap.size ≤ w7.heap.size := HS.out.2.size
      refine wpAnyH_ready (rs := [17]) (by kernel_rfl) (by simp) ?_
      refine AllReadyH.cons rfl (fun K hK => ?_) AllReadyH.nil
      rw [if_pos (by kernel_rfl)]
      refine wp_store_row 192 _ _ rfl w7.heap.size #[.int .i64 r.lsn, .int .i64 r.turn, .int .u8 (r.kind : Int), .int .i64 r.tx, .int .i64 r.prev, .int .i64 r.next, .int .i64 r.block, .int .i64 r.off, .slice s.a1 r.old.length s.c1, .slice s.a2 r.new.length s.c2] rfl rfl 192 _ hz sizeR rfl (by simp; exact ⟨rfl, rfl, rfl, rfl, rfl, rfl, rfl, rfl, rfl, rfl⟩) ?_
      refine hK.out _ _ (hHeld.then (M := [w7.heap.size]) ⟨rfl, rfl, rfl, by simp, fun i _ hn => setRow_other _ _ i _ (fun e => hn (by simp [e]))⟩ (fun i hi hm => by simp at hm; omega)) (fun hHeld => ?_)
      clear hK K
      have R9 := setRow_heap _ w7.heap.size _ #[.int .i64 r.lsn, .int .i64 r.turn, .int .u8 (r.kind : Int), .int .i64 r.tx, .int .i64 r.prev, .int .i64 r.next, .int .i64 r.block, .int .i64 r.off, .slice s.a1 r.old.length s.c1, .slice s.a2 r.new.length s.c2] _ _ hz
      try simp only [Act.put, List.getElem_toArray, List.getElem_cons_succ, List.getElem_cons_zero]
      refine wpAnyH_take (i := 18) (v := ?_) rfl (by kernel_rfl) (by kernel_rfl) (by kernel_rfl) (fun _ _ _ h => h) (Or.inl ⟨by kernel_rfl, ?_⟩) hHeld ?_
      rotate_left
      · intro w' hSw
        go_simp
        try with_reducible rfl
      try simp only [Act.put, List.getElem_toArray, List.getElem_cons_succ, List.getElem_cons_zero, List.setIfInBounds_toArray, List.set_cons_zero, List.set_cons_succ]
      refine wpAnyH_take (i := 19) (v := ?_) rfl (by kernel_rfl) (by kernel_rfl) (by kernel_rfl) (fun _ _ _ h => h) (Or.inl ⟨by kernel_rfl, ?_⟩) hHeld ?_
      rotate_left
      · intro w' hSw
        go_simp
        try with_reducible rfl
      try simp only [Act.put, List.getElem_toArray, List.getElem_cons_succ, List.getElem_cons_zero, List.setIfInBounds_toArray, List.set_cons_zero, List.set_cons_succ]
      refine wpAnyH_done (by kernel_rfl) ?_ _
      go_wp2
      go_meet
      exact ⟨_, s, rfl, R9, new_base ((ns9.kept (L := []) ((Fr.refl [] _).alloc _) (fun g' hg' => nomatch hg')).kept (L := [w7.heap.size]) ⟨rfl, rfl, rfl, by simp, fun i _ hn => setRow_other _ _ i _ (fun e => hn (by simp [e]))⟩ (fun g' hg' cur t h => by simp at hg'; subst hg'; rw [hz] at h; cases h; decide)) (by simp), hHeld⟩
    · rw [if_pos (by kernel_rfl)]
      go_wp2_with fail
      refine hK.out _ _ (hHeld.alloc _) (fun hHeld => ?_)
      clear hK K
      try simp only [Act.put, List.getElem_toArray, List.getElem_cons_succ, List.getElem_cons_zero, List.setIfInBounds_toArray, List.set_cons_zero, List.set_cons_succ]
      have hz0 : RBox (w1.drew.alloc (.cells #[.int .i64 0, .int .i64 0, .int .u8 0, .int .i64 0, .int .i64 0, .int .i64 0, .int .i64 0, .int .i64 0, .slice none 0 0, .slice none 0 0] 192)) w1.heap.size (zeroR 0 0) zeroS := heap_alloc_new w1.drew _
      refine wpAnyH_ready (rs := [11]) (by kernel_rfl) (by simp) ?_
      refine AllReadyH.cons rfl (fun K hK => ?_) AllReadyH.nil
      rw [if_pos (by kernel_rfl)]
      go_wp2_with (go_at_call 227; refine (SG.out _ hHeld).mono ?_; rintro e w7 ⟨s, rfl, HS⟩)
      refine hK.out _ _ (hHeld.trans HS.out.2) (fun hHeld => ?_)
      clear hK K
      have hz : RBox w7 w1.heap.size (zeroR 0 0) zeroS := hz0.kept HS.out.2 (by simp)
      have ns9 := HS.out.1
      have hs9 := HS.out.2.size
      try simp only [Act.put, List.getElem_toArray, List.getElem_cons_succ, List.getElem_cons_zero, List.setIfInBounds_toArray, List.set_cons_zero, List.set_cons_succ]
      refine wpAnyH_take (i := 12) (v := ?_) rfl (by kernel_rfl) (by kernel_rfl) (by kernel_rfl) (fun _ _ _ h => h) (Or.inl ⟨by kernel_rfl, ?_⟩) hHeld ?_
      rotate_left
      · intro w' hSw
        go_simp
        try with_reducible rfl
      try simp only [Act.put, List.getElem_toArray, List.getElem_cons_succ, List.getElem_cons_zero, List.setIfInBounds_toArray, List.set_cons_zero, List.set_cons_succ]
      refine wpAnyH_take (i := 13) (v := ?_) rfl (by kernel_rfl) (by kernel_rfl) (by kernel_rfl) (fun _ _ _ h => h) (Or.inl ⟨by kernel_rfl, ?_⟩) hHeld ?_
      rotate_left
      · intro w' hSw
        go_simp
        try with_reducible rfl
      try simp only [Act.put, List.getElem_toArray, List.getElem_cons_succ, List.getElem_cons_zero, List.setIfInBounds_toArray, List.set_cons_zero, List.set_cons_succ]
      refine wpAnyH_take (i := 14) (v := ?_) rfl (by kernel_rfl) (by kernel_rfl) (by kernel_rfl) (fun _ _ _ h => h) (Or.inl ⟨by kernel_rfl, ?_⟩) hHeld ?_
      rotate_left
      · intro w' hSw
        go_simp
        try with_reducible rfl
      try simp only [Act.put, List.getElem_toArray, List.getElem_cons_succ, List.getElem_cons_zero, List.setIfInBounds_toArray, List.set_cons_zero, List.set_cons_succ]
      refine wpAnyH_take (i := 15) (v := ?_) rfl (by kernel_rfl) (by kernel_rfl) (by kernel_rfl) (fun _ _ _ h => h) (Or.inl ⟨by kernel_rfl, ?_⟩) hHeld ?_
      rotate_left
      · intro w' hSw
        go_simp
        try with_reducible rfl
      try simp only [Act.put, List.getElem_toArray, List.getElem_cons_succ, List.getElem_cons_zero, List.setIfInBounds_toArray, List.set_cons_zero, List.set_cons_succ]
      refine wpAnyH_ready (rs := [17]) (by kernel_rfl) (by simp) ?_
      refine AllReadyH.cons rfl (fun K hK => ?_) AllReadyH.nil
      rw [if_pos (by kernel_rfl)]
      refine wp_store_row 192 _ _ rfl w1.heap.size #[.int .i64 r.lsn, .int .i64 r.turn, .int .u8 (r.kind : Int), .int .i64 r.tx, .int .i64 r.prev, .int .i64 r.next, .int .i64 r.block, .int .i64 r.off, .slice s.a1 r.old.length s.c1, .slice s.a2 r.new.length s.c2] rfl rfl 192 _ hz sizeR rfl (by simp; exact ⟨rfl, rfl, rfl, rfl, rfl, rfl, rfl, rfl, rfl, rfl⟩) ?_
      refine hK.out _ _ (hHeld.then (M := [w1.heap.size]) ⟨rfl, rfl, rfl, by simp, fun i _ hn => setRow_other _ _ i _ (fun e => hn (by simp [e]))⟩ (fun i hi hm => by simp at hm; omega)) (fun hHeld => ?_)
      clear hK K
      have R9 := setRow_heap _ w1.heap.size _ #[.int .i64 r.lsn, .int .i64 r.turn, .int .u8 (r.kind : Int), .int .i64 r.tx, .int .i64 r.prev, .int .i64 r.next, .int .i64 r.block, .int .i64 r.off, .slice s.a1 r.old.length s.c1, .slice s.a2 r.new.length s.c2] _ _ hz
      try simp only [Act.put, List.getElem_toArray, List.getElem_cons_succ, List.getElem_cons_zero]
      refine wpAnyH_take (i := 18) (v := ?_) rfl (by kernel_rfl) (by kernel_rfl) (by kernel_rfl) (fun _ _ _ h => h) (Or.inl ⟨by kernel_rfl, ?_⟩) hHeld ?_
      rotate_left
      · intro w' hSw
        go_simp
        try with_reducible rfl
      try simp only [Act.put, List.getElem_toArray, List.getElem_cons_succ, List.getElem_cons_zero, List.setIfInBounds_toArray, List.set_cons_zero, List.set_cons_succ]
      refine wpAnyH_take (i := 19) (v := ?_) rfl (by kernel_rfl) (by kernel_rfl) (by kernel_rfl) (fun _ _ _ h => h) (Or.inl ⟨by kernel_rfl, ?_⟩) hHeld ?_
      rotate_left
      · intro w' hSw
        go_simp
        try with_reducible rfl
      try simp only [Act.put, List.getElem_toArray, List.getElem_cons_succ, List.getElem_cons_zero, List.setIfInBounds_toArray, List.set_cons_zero, List.set_cons_succ]
      refine wpAnyH_done (by kernel_rfl) ?_ _
      go_wp2
      go_meet
      exact ⟨_, s, rfl, R9, new_base (ns9.kept (L := [w1.heap.size]) ⟨rfl, rfl, rfl, by simp, fun i _ hn => setRow_other _ _ i _ (fun e => hn (by simp [e]))⟩ (fun g' hg' cur t h => by simp at hg'; subst hg'; rw [hz] at h; cases h; decide)) (by simp), hHeld⟩
  obtain ⟨Z, s, rfl, R2, ns, f2⟩ := hcut
  have r1 := rR.kept f2 (by simp)
  have x0 := R2.c0
  have x1 := R2.c1
  have x2 := R2.c2
  have x3 := R2.c3
  have x4 := R2.c4
  have x5 := R2.c5
  have x6 := R2.c6
  have x7 := R2.c7
  have x8 := R2.c8
  have x9 := R2.c9
  go_wp2_with (refine wp_storeR rfl _ _ rfl w.heap.size _ r _ s rfl rfl r1 ?_; intro w3 r3 f3)
  refine bodyPost_ret (resR1 rfl _ _ w.heap.size r s rfl r3) rfl ⟨s, rfl, ?_, (f1.trans f2).then f3 (fun i hi hm => by simp at hm; omega)⟩
  exact (new_base ns f1.size).kept f3 (fun g' hg' cur t h => by simp at hg'; subst hg'; rw [r1] at h; cases h; decide)

end Go.Proofs.YtopaeomjndblkaaGreat

namespace Go.Proofs.YtopaeomjndblkaaGreat
open Go.RowKit Go.Maps

set_option maxHeartbeats 400000 in
set_option maxRecDepth 100000 in
theorem read_one (w : World) (p d : Nat) (first count turn oldest safe fin k : Int) (gl cl g n c : Nat) (l : List UInt8) (r : Rec) (hx : LBox w p ⟨.pointer (some ⟨d, 0, none⟩), first, count, turn, oldest, safe, fin, .slice (some ⟨g, 0, none⟩) n c, k, .slice (some ⟨gl, 0, none⟩) 1 cl⟩) (hls : LsAt w (some ⟨gl, 0, none⟩) 1 cl [k]) (hb : BytesAt w (some ⟨g, 0, none⟩) l) (hl : l.length = n) (hn0 : 1 ≤ n) (hn : n ≤ 100000) (hc : n ≤ c) (hd : decR l = some (r, n)) :
    Calls Tryz.prog 201 #[.pointer (some ⟨p, 0, none⟩), .int .i64 k] w fun e w' => ∃ s, e = .returned (.tuple #[.agg (recV r s), .int .i64 0]) ∧ Fr [] w w' := by
  have rR : RBox (w.alloc (.cells #[.int .i64 0, .int .i64 0, .int .u8 0, .int .i64 0, .int .i64 0, .int .i64 0, .int .i64 0, .int .i64 0, .slice none 0 0, .slice none 0 0] 192)) w.heap.size (zeroR 0 0) zeroS := heap_alloc_new w _
  have f1 := (Fr.refl [] w).alloc (.cells #[.int .i64 0, .int .i64 0, .int .u8 0, .int .i64 0, .int .i64 0, .int .i64 0, .int .i64 0, .int .i64 0, .slice none 0 0, .slice none 0 0] 192)
  go_enter Tryz.func201, Tryz.ntmps201
  go_wp2_with fail
  generalize w.alloc (.cells #[.int .i64 0, .int .i64 0, .int .u8 0, .int .i64 0, .int .i64 0, .int .i64 0, .int .i64 0, .int .i64 0, .slice none 0 0, .slice none 0 0] 192) = w1 at rR f1 ⊢
  have L1 := hx.kept f1 (by simp)
  have b1 := hb.kept f1 (by simp)
  have ls1 := own0_kept (L := []) hls f1 (fun g' hg' => nomatch hg')
  have k0 : w1.cell? ⟨p, 0, none⟩ = some (.pointer (some ⟨d, 0, none⟩)) := L1.c0
  have k9 : w1.cell? ⟨p, 9, none⟩ = some (.slice (some ⟨gl, 0, none⟩) 1 cl) := L1.c9
  obtain ⟨gl', e1, -, hcell⟩ := LsAt.at ls1 (by omega) rfl
  cases e1
  have kl := hcell 0 k rfl
  refine (lmade_yes _ p d k0).mono ?_
  rintro e w1 ⟨rfl, rfl⟩
  go_wp2_with fail
  refine (bin_one _ gl cl k kl).mono ?_
  rintro e w1 ⟨rfl, rfl⟩
  go_wp2_with fail
  refine (record_one w1 p _ first count turn oldest safe fin k _ g n c l r L1 b1 hl hn0 hn hc hd).mono ?_
  rintro e w2 ⟨s, rfl, ns, f2⟩
  have r2 := rR.kept f2 (by simp)
  go_wp2_with (refine wp_storeR rfl _ _ rfl w.heap.size _ r _ s rfl rfl r2 ?_; intro w3 r3 f3)
  refine bodyPost_ret (resR2 rfl _ _ w.heap.size r s rfl r3) rfl ⟨s, rfl, (f1.trans f2).then f3 (fun i hi hm => by simp at hm; omega)⟩

theorem infoR : (Tryz.prog.info? 192).map (fun i => (i.zero, i.size, i.bytes)) = some (some (.agg (recV (zeroR 0 0) zeroS)), 10, 112) := by kernel_rfl
theorem infoR' : ∃ i, Tryz.prog.info? 192 = some i ∧ i.zero = some (.agg (recV (zeroR 0 0) zeroS)) ∧ i.size = 10 ∧ i.bytes = 112 := by
  have h := infoR
  cases hi : Tryz.prog.info? 192 with
  | none => rw [hi] at h; cases h
  | some i =>
    rw [hi] at h
    simp at h
    exact ⟨i, rfl, h.1, h.2.1, h.2.2⟩

section
variable {ops : Array Oper} {rest : List Oper} {o : Oper} {a : Act} {w : World} {Q : Exit → Act → World → Prop}
/-- append of one record to no row. -/
theorem wp_appR0 (hgd : o.guard = none) (s x : Operand) (ho : o.op = .call { callee := .builtin .append, args := #[s, x], argTypes := #[253, 253] }) (b : Nat) (r : Rec) (sp : Spots) (hs : a.eval s = .slice none 0 0) (hx : a.eval x = .slice (some ⟨b, 0, none⟩) 1 1)
    (hb : RBox w b r sp)
    (h : ∀ g c' w', Fr [] w w' → wpList Tryz.prog ops Q rest (a.put o.dst (.slice (some ⟨g, 0, none⟩) 1 c')) w') : wpList Tryz.prog ops Q (o :: rest) a w :=
  wpList_plain hgd fun K hK => by
    obtain ⟨i, hi, hz, hsz, hbb⟩ := infoR'
    obtain ⟨v', w', hrun, h2, h3, h4, _⟩ := run_append_own_at (P := Tryz.prog) w 0 253 o.type 192 i (.agg (recV (zeroR 0 0) zeroS)) 10 112 Tryz.underlying253 hi hz hsz hbb rfl (by omega) (.slice none 0 0) 0 [] ⟨by simp, Or.inl ⟨rfl, rfl⟩⟩ ⟨b, 0, none⟩ 1 1 (recV r sp).toList (by simp [recV])
      (by
        intro j x hx
        rw [Addr.add_mid, Nat.zero_add, cell_of_row w b j _ _ _ hb]
        simpa using hx) (by simp [recV]; exact ⟨rfl, rfl, rfl, rfl, rfl, rfl, rfl, rfl, rfl, rfl⟩) (by unfold maxLen; omega) (by omega) (Nat.zero_le _)
    rcases h2.2 with ⟨e, hn0⟩ | ⟨g, c', cur, e, rr⟩
    · omega
    · subst e
      unfold Oper.wp execOp
      simp [ho, resolve, invoke, builtin, hs, hx, hrun, Result.andThen]
      exact hK _ _ (h _ _ _ ((Fr.refl _ _).grown h3 (fun j e _ => by cases e)))
end

set_option maxHeartbeats 400000 in
set_option maxRecDepth 100000 in
theorem from_one (w : World) (p d : Nat) (first count turn oldest safe fin k : Int) (gl cl g n c : Nat) (l : List UInt8) (r : Rec) (hx : LBox w p ⟨.pointer (some ⟨d, 0, none⟩), first, count, turn, oldest, safe, fin, .slice (some ⟨g, 0, none⟩) n c, k, .slice (some ⟨gl, 0, none⟩) 1 cl⟩) (hls : LsAt w (some ⟨gl, 0, none⟩) 1 cl [k]) (hb : BytesAt w (some ⟨g, 0, none⟩) l) (hl : l.length = n) (hn0 : 1 ≤ n) (hn : n ≤ 100000) (hc : n ≤ c) (hd : decR l = some (r, n)) :
    Calls Tryz.prog 211 #[.pointer (some ⟨p, 0, none⟩), .int .i64 k] w fun e w' => ∃ ad cc, e = .returned (.slice ad 1 cc) ∧ Fr [] w w' := by
  have k0 : w.cell? ⟨p, 0, none⟩ = some (.pointer (some ⟨d, 0, none⟩)) := hx.c0
  have k9 : w.cell? ⟨p, 9, none⟩ = some (.slice (some ⟨gl, 0, none⟩) 1 cl) := hx.c9
  obtain ⟨gl', e1, hcl, hcell⟩ := LsAt.at hls (by omega) rfl
  cases e1
  have kl := hcell 0 k rfl
  have hcl' : (1 : Int) ≤ cl := by omega
  have hcl0 : ¬ cl = 0 := by omega
  go_enter Tryz.func211, Tryz.ntmps211
  go_wp2_with fail
  refine (lmade_yes _ p d k0).mono ?_
  rintro e w ⟨rfl, rfl⟩
  go_wp2_with fail
  refine (bin_one _ gl cl k kl).mono ?_
  rintro e w ⟨rfl, rfl⟩
  go_wp2_with fail
  go_loopw [7, 31] (fun v i wr => (v = .slice none 0 0 ∧ i = .int .i64 0 ∧ wr = w) ∨ ((∃ ad cc, v = .slice ad 1 cc) ∧ i = .int .i64 1 ∧ Fr [] w wr)) (fun _ i _ => 1 - (intOf i).toNat)
  case atStart => exact Or.inl ⟨rfl, rfl, rfl⟩
  case round =>
    rcases hrel with ⟨rfl, rfl, hwr⟩ | ⟨⟨ad, cc, rfl⟩, rfl, f1⟩
    · subst hwr
      go_wp2_with fail
      refine (record_one wr p _ first count turn oldest safe fin k _ g n c l r hx hb hl hn0 hn hc hd).mono ?_
      rintro e w2 ⟨s, rfl, ns, f2⟩
      have RB : RBox (w2.alloc (.cells (recV r s) 192)) w2.heap.size r s := heap_alloc_new w2 _
      unfold RBox recV at RB
      unfold recV
      go_wp2_with (refine wp_appR0 rfl _ _ rfl w2.heap.size r s rfl rfl RB ?_; intro g5 c5 w5 f5)
      exact ⟨Or.inr ⟨⟨_, _, rfl⟩, rfl, (f2.alloc _).trans f5⟩, by simp [intOf]⟩
    · go_wp2_with fail
      go_ret
      exact ⟨ad, cc, rfl, f1⟩

end Go.Proofs.YtopaeomjndblkaaGreat

namespace Go.Proofs.YtopaeomjndblkaaGreat
open Go.RowKit Go.Maps

set_option maxHeartbeats 400000 in
set_option maxRecDepth 100000 in
theorem letGo_same (w : World) (p : Nat) (x : Lg) (hx : LBox w p x) (e1 : x.oldest = 1) (e2 : x.from' = 1) (h : 1 ≤ x.safe) :
    Calls Tryz.prog 186 #[.pointer (some ⟨p, 0, none⟩)] w fun e w' => e = .returned (.tuple #[]) ∧ Fr [] w w' := by
  obtain ⟨dv, first, count, turn, oldest, safe, fin, by_, from_, ls⟩ := x
  dsimp only at e1 e2 h
  subst e1 e2
  have c4 : w.cell? ⟨p, 4, none⟩ = some (.int .i64 1) := hx.c4
  have c5 : w.cell? ⟨p, 5, none⟩ = some (.int .i64 safe) := hx.c5
  have c8 : w.cell? ⟨p, 8, none⟩ = some (.int .i64 1) := hx.c8
  have hm : min 1 safe = 1 := by omega
  go_enter Tryz.func186, Tryz.ntmps186
  go_wp2_with fail
  go_quiet (fail)
  have f := (Fr.refl [] w).drewN nq
  have c8 : (w.drewN nq).cell? ⟨p, 8, none⟩ = some (.int .i64 1) := (hx.kept f (by simp)).c8
  generalize w.drewN nq = w1 at f c8 ⊢
  go_wp2
  exact bodyPost_ret (results_none Tryz.results186 _ _ _) rfl ⟨rfl, f⟩

theorem src_of {w : World} {g c : Nat} {l : List UInt8} (h : RowB w g c l) : Dv.Src w g 0 l := by
  intro j v hv
  obtain ⟨b, off, e, hc⟩ := h.bytes j v hv
  cases e
  exact hc

set_option maxHeartbeats 1000000 in
set_option maxRecDepth 100000 in
theorem force_one (w : World) (p d bs bo : Nat) (nb : Int) (S O : Dv.Tab) (hdv : Dv.Dev w d bs bo nb 0 false S O) (first count : Int) (T n gb cb : Nat) (ls : Value) (lb : List UInt8) (hx : LBox w p ⟨.pointer (some ⟨d, 0, none⟩), first, count, (T : Int), 1, 1, (n : Int) + 1, .slice (some ⟨gb, 0, none⟩) n cb, 1, ls⟩) (hb : BytesAt w (some ⟨gb, 0, none⟩) lb) (hl : lb.length = n) (hn0 : 1 ≤ n) (hn : n ≤ 50) (hcb : n ≤ cb) (f0 : 0 ≤ first) (f1 : first + count ≤ nb) (c0 : 4 ≤ count) (hT : T < 2147483648) (hp1 : p ≠ d) (hp2 : p ≠ bs) (hp3 : p ≠ bo) :
    Calls Tryz.prog 84 #[.pointer (some ⟨p, 0, none⟩)] w fun e w' => e = .returned (.int .i64 0) ∧ LBox w' p ⟨.pointer (some ⟨d, 0, none⟩), first, count, (T : Int), 1, (n : Int) + 1, (n : Int) + 1, .slice (some ⟨gb, 0, none⟩) n cb, 1, ls⟩ ∧ Dv.Dev w' d bs bo nb (Dv.left (Dv.left 0)) false (Dv.over S (Dv.Tab.put O first (blk1 T lb))) Dv.Tab.none ∧ Fr [p, d, bs, bo] w w' := by
  have n2 := hdv.n2
  have k0 : w.cell? ⟨p, 0, none⟩ = some (.pointer (some ⟨d, 0, none⟩)) := hx.c0
  have k5 : w.cell? ⟨p, 5, none⟩ = some (.int .i64 1) := hx.c5
  have k6 : w.cell? ⟨p, 6, none⟩ = some (.int .i64 ((n : Int) + 1)) := hx.c6
  have q1 : ((1 : Int) == (n : Int) + 1) = false := by rw [beq_eq_false_iff_ne]; omega
  have hl51 : lb.length ≤ 51 := by omega
  have hpL : p ∉ [d, bo] := by simp; exact ⟨hp1, hp3⟩
  go_enter Tryz.func84, Tryz.ntmps84
  go_wp2_with (go_at_call 177; refine (lmade_yes _ p d k0).mono ?_; rintro e w ⟨rfl, rfl⟩)
  go_quiet (fail)
  have fd := (Fr.refl [] w).drewN nq
  have L1 := hx.kept fd (by simp)
  have D1 := dev_kept hdv fd (by simp) (by simp) (by simp)
  have b1 := hb.kept fd (by simp)
  generalize w.drewN nq = w1 at fd L1 D1 b1 ⊢
  have k51 : w1.cell? ⟨p, 5, none⟩ = some (.int .i64 1) := L1.c5
  clear k0 k5 k6
  go_wp2_with fail
  go_loopw [3] (fun s3 wr => (s3 = .int .i64 1 ∧ wr = w1) ∨ (s3 = .int .i64 409 ∧ LBox wr p ⟨.pointer (some ⟨d, 0, none⟩), first, count, (T : Int), 1, 1, (n : Int) + 1, .slice (some ⟨gb, 0, none⟩) n cb, 1, ls⟩ ∧ Dv.Dev wr d bs bo nb (Dv.left 0) false S (Dv.Tab.put O first (blk1 T lb)) ∧ Fr [d, bo] w1 wr)) (fun s3 _ => 409 - (intOf s3).toNat)
  case atStart => exact Or.inl ⟨rfl, rfl⟩
  case round =>
    rcases hrel with ⟨rfl, hwr⟩ | ⟨rfl, L2, D2, f2⟩
    · subst hwr
      have k6 : wr.cell? ⟨p, 6, none⟩ = some (.int .i64 ((n : Int) + 1)) := L1.c6
      have q2 : (1 : Int) < (n : Int) + 1 := by omega
      go_wp2_with fail
      refine (laid_one wr p _ L1 gb cb n T lb hl hn0 hn hcb b1 rfl rfl rfl rfl hT).mono ?_
      rintro e w2 ⟨g, rfl, rw2, hg2, f2⟩
      have L2 := L1.kept f2 (by simp)
      have D2 := dev_kept D1 f2 (by simp) (by simp) (by simp)
      go_wp2_with fail
      go_cut [6] from 41 to 59 (fun s6 wx => s6 = .int .i64 0 ∧ Dv.Dev wx d bs bo nb (Dv.left 0) false S (Dv.Tab.put O first (blk1 T lb)) ∧ Fr [d, bo] w2 wx)
      case first => as_aux_lemma =>
        obtain ⟨W0, HW0⟩ : ∃ W0, Hid (W0 = w2) := ⟨_, rfl⟩
        have gg : Fr [] W0 w2.drew := (by rw [HW0.out]; exact (Fr.refl _ _).drew)
        rw [← HW0.out] at L2 D2 rw2
        have SK : Hid (∀ w', Fr [] W0 w' → w'.cell? ⟨p, 0, none⟩ = some (.pointer (some ⟨d, 0, none⟩)) ∧ w'.cell? ⟨p, 1, none⟩ = some (.int .i64 first) ∧ w'.cell? ⟨p, 2, none⟩ = some (.int .i64 count)) := hidI (fun w' f => ⟨(L2.kept f (by simp)).c0, (L2.kept f (by simp)).c1, (L2.kept f (by simp)).c2⟩)
        have k0 := SK.out _ gg
        go_region_held3 (fun w' => w'.cell? ⟨p, 0, none⟩ = some (.pointer (some ⟨d, 0, none⟩)) ∧ w'.cell? ⟨p, 1, none⟩ = some (.int .i64 first) ∧ w'.cell? ⟨p, 2, none⟩ = some (.int .i64 count)) (first | exact SK.out _ gg | exact kk)
          ((first
            | (go_at_call 185; refine (block_any _ _ first count 0 (by omega) f0 (by omega) c0 (by omega)).mono ?_; rintro e w7 ⟨rfl, f7⟩; replace gg := gg.trans f7)
            | (go_at_call 129; refine (Dv.write_dev (dev_kept D2 gg (by simp) (by simp) (by simp)) first f0 (by omega) g 0 512 (blk1 T lb) (blk1_length T lb hl51) (src_of (rw2.kept gg (by simp)))).mono ?_; rintro e w8 ⟨rfl, D8, f8⟩; have g8 : Fr [d, bo] W0 w8 := (gg.mono (M := [d, bo]) (fun _ _ e => nomatch e)).trans (fr_dv f8); have kk := And.intro (L2.kept g8 hpL).c0 (And.intro (L2.kept g8 hpL).c1 (L2.kept g8 hpL).c2); rw [show Dv.told (Dv.crash 0) = 0 from rfl])))
        all_goals go_wp2
        all_goals go_meet
        all_goals (have HW := HW0.out; subst HW)
        all_goals exact ⟨rfl, D8, g8⟩
      obtain ⟨rfl, D3, f3⟩ := hcut
      have L3 := L2.kept f3 hpL
      go_wp2_with (go_at_call 183; refine (inBlock_any _ 0 (by omega)).mono ?_; rintro e wc ⟨rfl, rfl⟩)
      exact ⟨Or.inr ⟨rfl, L3, D3, (f2.mono (M := [d, bo]) (fun _ _ e => nomatch e)).trans f3⟩, by simp [intOf]⟩
    · have k6 : wr.cell? ⟨p, 6, none⟩ = some (.int .i64 ((n : Int) + 1)) := L2.c6
      have k0 : wr.cell? ⟨p, 0, none⟩ = some (.pointer (some ⟨d, 0, none⟩)) := L2.c0
      have q2 : ¬ (409 : Int) < (n : Int) + 1 := by omega
      go_wp2_with fail
      refine (Dv.sync_dev D2 rfl).mono ?_
      rintro e w4 ⟨rfl, D4, f4⟩
      have f4' := fr_dv f4
      have L4 := L2.kept f4' (by simp; exact ⟨hp1, hp2, hp3⟩)
      have k64 : w4.cell? ⟨p, 6, none⟩ = some (.int .i64 ((n : Int) + 1)) := L4.c6
      have k54 := L4.c5
      have z54 := L4.fz 5
      have L5 := L4.s5 ((n : Int) + 1)
      have D5 := dev_kept D4 (fr_set w4 p 5 (.int .i64 ((n : Int) + 1))) (by simpa using hp1.symm) (by simpa using hp2.symm) (by simpa using hp3.symm)
      have F5 : Fr [p, d, bs, bo] w (w4.setCell ⟨p, 5, none⟩ (.int .i64 ((n : Int) + 1))) := (((fd.mono (M := [p, d, bs, bo]) (fun _ _ e => nomatch e)).trans (f2.mono (by simp; omega))).trans (f4'.mono (by simp; omega))).trans ((fr_set w4 p 5 _).mono (by intro k _ hk; simp at hk; simp [hk]))
      go_wp2_with fail
      refine (letGo_same _ p _ L5 rfl rfl (by show (1 : Int) ≤ (n : Int) + 1; omega)).mono ?_
      rintro e w6 ⟨rfl, f6⟩
      go_wp2_with fail
      go_ret
      exact ⟨rfl, L5.kept f6 (by simp), dev_kept D5 f6 (by simp) (by simp) (by simp), F5.trans (f6.mono (fun _ _ e => nomatch e))⟩

end Go.Proofs.YtopaeomjndblkaaGreat

