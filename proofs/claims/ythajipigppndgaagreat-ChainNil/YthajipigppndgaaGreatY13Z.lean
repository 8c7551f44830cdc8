/-
  A log's block as it is to be written, from whatever place: a row of 512 bytes, whatever they are.
-/
import Derived.Test.YthajipigppndgaaGreatY12Z
import Derived.Deep.CutRange
import Derived.Test.YthajipigppndgaaGreatY10Z
import Derived.Deep.RegionHeld3
namespace Go.Proofs.YthajipigppndgaaGreat
open Go.RowKit Go.Maps

set_option maxHeartbeats 1000000 in
set_option maxRecDepth 100000 in
theorem record_any (w : World) (p : Nat) (dv : Value) (first count turn oldest safe fin k0 k : Int) (ls : Value) (g N c o n C : Nat) (lb : List UInt8) (m : Nat) (r : Rec) (hx : LBox w p ⟨dv, first, count, turn, oldest, safe, fin, .slice (some ⟨g, 0, none⟩) N c, k0, ls⟩) (hb : BytesAt w (some ⟨g, 0, none⟩) lb) (hl : lb.length = N) (ho : o < N) (hN : N = o + n) (hC : c = o + C) (hn : n ≤ 100000) (hc : N ≤ c) (hk : IntKind.i64.wrap (k - k0) = (o : Int)) (hd : decR (lb.drop o) = some (r, m)) :
    Calls Tryz.prog 192 #[.pointer (some ⟨p, 0, none⟩), .int .i64 k] w fun e w' => ∃ s, e = .returned (.agg (recV r s)) ∧ NewSpots w w' r s ∧ Fr [] w w' := by
  have hc0 : ¬ c = o := by omega
  have hnc : (N : Int) ≤ c := by omega
  have hon : (o : Int) ≤ N := by omega
  have hnn : (0 : Int) ≤ o := by omega
  have e1 : N - o = n := by omega
  have e2 : c - o = C := by omega
  have b0 : BytesAt w (some ⟨g, 0 + o, none⟩) ((lb.drop o).take n) := hb.sub o n
  have hdl : (lb.drop o).length = n := by rw [List.length_drop]; omega
  rw [List.take_of_length_le (by omega), Nat.zero_add] at b0
  have HCC : Hid (n ≤ C) := hidI (by omega)
  have HDL := hidI hdl
  have HN := hidI hN
  have HC := hidI hC
  clear hdl hN hC hb hl hc
  have rR : RBox (w.alloc (.cells #[.int .i64 0, .int .i64 0, .int .u8 0, .int .i64 0, .int .i64 0, .int .i64 0, .int .i64 0, .int .i64 0, .slice none 0 0, .slice none 0 0] 148)) w.heap.size (zeroR 0 0) zeroS := heap_alloc_new w _
  have f1 := (Fr.refl [] w).alloc (.cells #[.int .i64 0, .int .i64 0, .int .u8 0, .int .i64 0, .int .i64 0, .int .i64 0, .int .i64 0, .int .i64 0, .slice none 0 0, .slice none 0 0] 148)
  go_enter Tryz.func192, Tryz.ntmps192
  go_wp2_with fail
  generalize w.alloc (.cells #[.int .i64 0, .int .i64 0, .int .u8 0, .int .i64 0, .int .i64 0, .int .i64 0, .int .i64 0, .int .i64 0, .slice none 0 0, .slice none 0 0] 148) = w1 at rR f1 ⊢
  have L1 := hx.kept f1 (by simp)
  have b1 := b0.kept f1 (by simp)
  go_cut [5] from 9 (fun s5 wx => ∃ Z s, s5 = .pointer (some ⟨Z, 0, none⟩) ∧ RBox wx Z r s ∧ NewSpots w1 wx r s ∧ Fr [] w1 wx)
  case first => as_aux_lemma =>
    have SG : Hid (∀ w', Fr [] w1 w' → Calls Tryz.prog 251 #[.slice (some ⟨g, o, none⟩) n C] w' fun e w'' => ∃ s, e = .returned (.tuple #[.agg (recV r s), .int .i64 (m : Int), .int .i64 0]) ∧ Hid (NewSpots w' w'' r s ∧ Fr [] w' w'')) := hidI (fun w' f => (get_any w' _ n C (lb.drop o) HDL.out HCC.out hn (b1.kept f (by simp))).mono (by
      rintro e w'' h
      rcases h with ⟨h1, _⟩ | ⟨r2, n2, s, h1, rfl, h2, h3⟩
      · rw [hd] at h1; cases h1
      · rw [hd] at h1; cases h1; exact ⟨s, rfl, hidI ⟨h2, h3⟩⟩))
    unfold recV at SG
    have HL1 := hidI L1
    refine wp_region_held_drew (S := fun w' => Fr [] w1 w') (by kernel_rfl) (Fr.refl _ _).drew (fun hHeld => ?_)
    refine wpAnyH_take (i := 0) (v := ?_) rfl (by kernel_rfl) (by kernel_rfl) (by kernel_rfl) (fun _ _ _ h => h) (Or.inl ⟨by kernel_rfl, ?_⟩) hHeld ?_
    rotate_left
    · intro w' hSw
      go_simp
      try with_reducible rfl
    try simp only [Act.put, List.getElem_toArray, List.getElem_cons_zero, List.setIfInBounds_toArray, List.set_cons_zero, List.set_cons_succ]
    refine wpAnyH_take (i := 1) (v := ?_) rfl (by kernel_rfl) (by kernel_rfl) (by kernel_rfl) (fun _ _ _ h => h) (Or.inl ⟨by kernel_rfl, ?_⟩) hHeld ?_
    rotate_left
    · intro w' hSw
      go_simp
      try with_reducible rfl
    try simp only [Act.put, List.getElem_toArray, List.getElem_cons_succ, List.getElem_cons_zero, List.setIfInBounds_toArray, List.set_cons_zero, List.set_cons_succ]
    refine wpAnyH_take (i := 2) (v := ?_) rfl (by kernel_rfl) (by kernel_rfl) (by kernel_rfl) (fun _ _ _ h => h) (Or.inl ⟨by kernel_rfl, ?_⟩) hHeld ?_
    rotate_left
    · intro w' hSw
      go_simp
      try with_reducible rfl
    try simp only [Act.put, List.getElem_toArray, List.getElem_cons_succ, List.getElem_cons_zero, List.setIfInBounds_toArray, List.set_cons_zero, List.set_cons_succ]
    refine wpAnyH_take (i := 3) (v := ?_) rfl (by kernel_rfl) (by kernel_rfl) (by kernel_rfl) (fun _ _ _ h => h) (Or.inl ⟨by kernel_rfl, ?_⟩) hHeld ?_
    rotate_left
    · intro w' hSw
      have k7 : w'.cell? ⟨p, 7, none⟩ = some (.slice (some ⟨g, 0, none⟩) N c) := (HL1.out.kept hSw (by simp)).c7
      go_simp
      try with_reducible rfl
    try simp only [Act.put, List.getElem_toArray, List.getElem_cons_succ, List.getElem_cons_zero, List.setIfInBounds_toArray, List.set_cons_zero, List.set_cons_succ]
    refine wpAnyH_take (i := 4) (v := ?_) rfl (by kernel_rfl) (by kernel_rfl) (by kernel_rfl) (fun _ _ _ h => h) (Or.inl ⟨by kernel_rfl, ?_⟩) hHeld ?_
    rotate_left
    · intro w' hSw
      go_simp
      try with_reducible rfl
    try simp only [Act.put, List.getElem_toArray, List.getElem_cons_succ, List.getElem_cons_zero, List.setIfInBounds_toArray, List.set_cons_zero, List.set_cons_succ]
    refine wpAnyH_take (i := 5) (v := ?_) rfl (by kernel_rfl) (by kernel_rfl) (by kernel_rfl) (fun _ _ _ h => h) (Or.inl ⟨by kernel_rfl, ?_⟩) hHeld ?_
    rotate_left
    · intro w' hSw
      go_simp
      try with_reducible rfl
    try simp only [Act.put, List.getElem_toArray, List.getElem_cons_succ, List.getElem_cons_zero, List.setIfInBounds_toArray, List.set_cons_zero, List.set_cons_succ]
    refine wpAnyH_take (i := 6) (v := ?_) rfl (by kernel_rfl) (by kernel_rfl) (by kernel_rfl) (fun _ _ _ h => h) (Or.inl ⟨by kernel_rfl, ?_⟩) hHeld ?_
    rotate_left
    · intro w' hSw
      go_simp
      try with_reducible rfl
    try simp only [Act.put, List.getElem_toArray, List.getElem_cons_succ, List.getElem_cons_zero, List.setIfInBounds_toArray, List.set_cons_zero, List.set_cons_succ]
    refine wpAnyH_take (i := 7) (v := ?_) rfl (by kernel_rfl) (by kernel_rfl) (by kernel_rfl) (fun _ _ _ h => h) (Or.inl ⟨by kernel_rfl, ?_⟩) hHeld ?_
    rotate_left
    · intro w' hSw
      go_simp
      try with_reducible rfl
    try simp only [Act.put, List.getElem_toArray, List.getElem_cons_succ, List.getElem_cons_zero, List.setIfInBounds_toArray, List.set_cons_zero, List.set_cons_succ]
    refine wpAnyH_take (i := 8) (v := ?_) rfl (by kernel_rfl) (by kernel_rfl) (by kernel_rfl) (fun _ _ _ h => h) (Or.inl ⟨by kernel_rfl, ?_⟩) hHeld ?_
    rotate_left
    · intro w' hSw
      have k8 : w'.cell? ⟨p, 8, none⟩ = some (.int .i64 k0) := (HL1.out.kept hSw (by simp)).c8
      go_simp
      try with_reducible rfl
    try simp only [Act.put, List.getElem_toArray, List.getElem_cons_succ, List.getElem_cons_zero, List.setIfInBounds_toArray, List.set_cons_zero, List.set_cons_succ]
    refine wpAnyH_take (i := 9) (v := ?_) rfl (by kernel_rfl) (by kernel_rfl) (by kernel_rfl) (fun _ _ _ h => h) (Or.inl ⟨by kernel_rfl, ?_⟩) hHeld ?_
    rotate_left
    · intro w' hSw
      go_simp
      try with_reducible rfl
    try simp only [Act.put, List.getElem_toArray, List.getElem_cons_succ, List.getElem_cons_zero, List.setIfInBounds_toArray, List.set_cons_zero, List.set_cons_succ]
    refine wpAnyH_take (i := 10) (v := ?_) rfl (by kernel_rfl) (by kernel_rfl) (by kernel_rfl) (fun _ _ _ h => h) (Or.inl ⟨by kernel_rfl, ?_⟩) hHeld ?_
    rotate_left
    · intro w' hSw
      go_simp
      try with_reducible rfl
    try simp only [Act.put, List.getElem_toArray, List.getElem_cons_succ, List.getElem_cons_zero, List.setIfInBounds_toArray, List.set_cons_zero, List.set_cons_succ]
    refine wpAnyH_ready (rs := [11, 16]) (by kernel_rfl) (by simp) ?_
    refine AllReadyH.cons rfl (fun K hK => ?_) (AllReadyH.cons rfl (fun K hK => ?_) AllReadyH.nil)
    · rw [if_pos (by kernel_rfl)]
      go_wp2_with (go_at_call 251; refine (SG.out _ hHeld).mono ?_; rintro e w7 ⟨s, rfl, HS⟩)
      refine hK.out _ _ (hHeld.trans HS.out.2) (fun hHeld => ?_)
      clear hK K
      try simp only [Act.put, List.getElem_toArray, List.getElem_cons_succ, List.getElem_cons_zero, List.setIfInBounds_toArray, List.set_cons_zero, List.set_cons_succ]
      refine wpAnyH_take (i := 12) (v := ?_) rfl (by kernel_rfl) (by kernel_rfl) (by kernel_rfl) (fun _ _ _ h => h) (Or.inl ⟨by kernel_rfl, ?_⟩) hHeld ?_
      rotate_left
      · intro w' hSw
        go_simp
        try with_reducible rfl
      try simp only [Act.put, List.getElem_toArray, List.getElem_cons_succ, List.getElem_cons_zero, List.setIfInBounds_toArray, List.set_cons_zero, List.set_cons_succ]
      refine wpAnyH_take (i := 13) (v := ?_) rfl (by kernel_rfl) (by kernel_rfl) (by kernel_rfl) (fun _ _ _ h => h) (Or.inl ⟨by kernel_rfl, ?_⟩) hHeld ?_
      rotate_left
      · intro w' hSw
        go_simp
        try with_reducible rfl
      try simp only [Act.put, List.getElem_toArray, List.getElem_cons_succ, List.getElem_cons_zero, List.setIfInBounds_toArray, List.set_cons_zero, List.set_cons_succ]
      refine wpAnyH_take (i := 14) (v := ?_) rfl (by kernel_rfl) (by kernel_rfl) (by kernel_rfl) (fun _ _ _ h => h) (Or.inl ⟨by kernel_rfl, ?_⟩) hHeld ?_
      rotate_left
      · intro w' hSw
        go_simp
        try with_reducible rfl
      try simp only [Act.put, List.getElem_toArray, List.getElem_cons_succ, List.getElem_cons_zero, List.setIfInBounds_toArray, List.set_cons_zero, List.set_cons_succ]
      refine wpAnyH_take (i := 15) (v := ?_) rfl (by kernel_rfl) (by kernel_rfl) (by kernel_rfl) (fun _ _ _ h => h) (Or.inl ⟨by kernel_rfl, ?_⟩) hHeld ?_
      rotate_left
      · intro w' hSw
        go_simp
        try with_reducible rfl
      try simp only [Act.put, List.getElem_toArray, List.getElem_cons_succ, List.getElem_cons_zero, List.setIfInBounds_toArray, List.set_cons_zero, List.set_cons_succ]
      refine wpAnyH_ready (rs := [16]) (by kernel_rfl) (by simp) ?_
      refine AllReadyH.cons rfl (fun K hK => ?_) AllReadyH.nil
      rw [if_pos (by kernel_rfl)]
      go_wp2_with fail
      refine hK.out _ _ (hHeld.alloc _) (fun hHeld => ?_)
      clear hK K
      try simp only [Act.put, List.getElem_toArray, List.getElem_cons_succ, List.getElem_cons_zero, List.setIfInBounds_toArray, List.set_cons_zero, List.set_cons_succ]
      have hz : RBox (w7.alloc (.cells #[.int .i64 0, .int .i64 0, .int .u8 0, .int .i64 0, .int .i64 0, .int .i64 0, .int .i64 0, .int .i64 0, .slice none 0 0, .slice none 0 0] 148)) w7.heap.size (zeroR 0 0) zeroS := heap_alloc_new w7 _
      have ns9 := HS.out.1
      have hs9 : w1.heap.size ≤ w7.heap.size := HS.out.2.size
      refine wpAnyH_ready (rs := [17]) (by kernel_rfl) (by simp) ?_
      refine AllReadyH.cons rfl (fun K hK => ?_) AllReadyH.nil
      rw [if_pos (by kernel_rfl)]
      refine wp_store_row 148 _ _ rfl w7.heap.size #[.int .i64 r.lsn, .int .i64 r.turn, .int .u8 (r.kind : Int), .int .i64 r.tx, .int .i64 r.prev, .int .i64 r.next, .int .i64 r.block, .int .i64 r.off, .slice s.a1 r.old.length s.c1, .slice s.a2 r.new.length s.c2] rfl rfl 148 _ hz sizeR rfl (by simp; exact ⟨rfl, rfl, rfl, rfl, rfl, rfl, rfl, rfl, rfl, rfl⟩) ?_
      refine hK.out _ _ (hHeld.then (M := [w7.heap.size]) ⟨rfl, rfl, rfl, by simp, fun i _ hn => setRow_other _ _ i _ (fun e => hn (by simp [e]))⟩ (fun i hi hm => by simp at hm; omega)) (fun hHeld => ?_)
      clear hK K
      have R9 := setRow_heap _ w7.heap.size _ #[.int .i64 r.lsn, .int .i64 r.turn, .int .u8 (r.kind : Int), .int .i64 r.tx, .int .i64 r.prev, .int .i64 r.next, .int .i64 r.block, .int .i64 r.off, .slice s.a1 r.old.length s.c1, .slice s.a2 r.new.length s.c2] _ _ hz
      try simp only [Act.put, List.getElem_toArray, List.getElem_cons_succ, List.getElem_cons_zero]
      refine wpAnyH_take (i := 18) (v := ?_) rfl (by kernel_rfl) (by kernel_rfl) (by kernel_rfl) (fun _ _ _ h => h) (Or.inl ⟨by kernel_rfl, ?_⟩) hHeld ?_
      rotate_left
      · intro w' hSw
        go_simp
        try with_reducible rfl
      try simp only [Act.put, List.getElem_toArray, List.getElem_cons_succ, List.getElem_cons_zero, List.setIfInBounds_toArray, List.set_cons_zero, List.set_cons_succ]
      refine wpAnyH_take (i := 19) (v := ?_) rfl (by kernel_rfl) (by kernel_rfl) (by kernel_rfl) (fun _ _ _ h => h) (Or.inl ⟨by kernel_rfl, ?_⟩) hHeld ?_
      rotate_left
      · intro w' hSw
        go_simp
        try with_reducible rfl
      try simp only [Act.put, List.getElem_toArray, List.getElem_cons_succ, List.getElem_cons_zero, List.setIfInBounds_toArray, List.set_cons_zero, List.set_cons_succ]
      refine wpAnyH_done (by kernel_rfl) ?_ _
      go_wp2
      go_meet
      exact ⟨_, s, rfl, R9, new_base ((ns9.kept (L := []) ((Fr.refl [] _).alloc _) (fun g' hg' => nomatch hg')).kept (L := [w7.heap.size]) ⟨rfl, rfl, rfl, by simp, fun i _ hn => setRow_other _ _ i _ (fun e => hn (by simp [e]))⟩ (fun g' hg' cur t h => by simp at hg'; subst hg'; rw [hz] at h; cases h; decide)) (by simp), hHeld⟩
    · rw [if_pos (by kernel_rfl)]
      go_wp2_with fail
      refine hK.out _ _ (hHeld.alloc _) (fun hHeld => ?_)
      clear hK K
      try simp only [Act.put, List.getElem_toArray, List.getElem_cons_succ, List.getElem_cons_zero, List.setIfInBounds_toArray, List.set_cons_zero, List.set_cons_succ]
      have hz0 : RBox (w1.drew.alloc (.cells #[.int .i64 0, .int .i64 0, .int .u8 0, .int .i64 0, .int .i64 0, .int .i64 0, .int .i64 0, .int .i64 0, .slice none 0 0, .slice none 0 0] 148)) w1.heap.size (zeroR 0 0) zeroS := heap_alloc_new w1.drew _
      refine wpAnyH_ready (rs := [11]) (by kernel_rfl) (by simp) ?_
      refine AllReadyH.cons rfl (fun K hK => ?_) AllReadyH.nil
      rw [if_pos (by kernel_rfl)]
      go_wp2_with (go_at_call 251; refine (SG.out _ hHeld).mono ?_; rintro e w7 ⟨s, rfl, HS⟩)
      refine hK.out _ _ (hHeld.trans HS.out.2) (fun hHeld => ?_)
      clear hK K
      have hz : RBox w7 w1.heap.size (zeroR 0 0) zeroS := hz0.kept HS.out.2 (by simp)
      have ns9 := HS.out.1
      have hs9 := HS.out.2.size
      try simp only [Act.put, List.getElem_toArray, List.getElem_cons_succ, List.getElem_cons_zero, List.setIfInBounds_toArray, List.set_cons_zero, List.set_cons_succ]
      refine wpAnyH_take (i := 12) (v := ?_) rfl (by kernel_rfl) (by kernel_rfl) (by kernel_rfl) (fun _ _ _ h => h) (Or.inl ⟨by kernel_rfl, ?_⟩) hHeld ?_
      rotate_left
      · intro w' hSw
        go_simp
        try with_reducible rfl
      try simp only [Act.put, List.getElem_toArray, List.getElem_cons_succ, List.getElem_cons_zero, List.setIfInBounds_toArray, List.set_cons_zero, List.set_cons_succ]
      refine wpAnyH_take (i := 13) (v := ?_) rfl (by kernel_rfl) (by kernel_rfl) (by kernel_rfl) (fun _ _ _ h => h) (Or.inl ⟨by kernel_rfl, ?_⟩) hHeld ?_
      rotate_left
      · intro w' hSw
        go_simp
        try with_reducible rfl
      try simp only [Act.put, List.getElem_toArray, List.getElem_cons_succ, List.getElem_cons_zero, List.setIfInBounds_toArray, List.set_cons_zero, List.set_cons_succ]
      refine wpAnyH_take (i := 14) (v := ?_) rfl (by kernel_rfl) (by kernel_rfl) (by kernel_rfl) (fun _ _ _ h => h) (Or.inl ⟨by kernel_rfl, ?_⟩) hHeld ?_
      rotate_left
      · intro w' hSw
        go_simp
        try with_reducible rfl
      try simp only [Act.put, List.getElem_toArray, List.getElem_cons_succ, List.getElem_cons_zero, List.setIfInBounds_toArray, List.set_cons_zero, List.set_cons_succ]
      refine wpAnyH_take (i := 15) (v := ?_) rfl (by kernel_rfl) (by kernel_rfl) (by kernel_rfl) (fun _ _ _ h => h) (Or.inl ⟨by kernel_rfl, ?_⟩) hHeld ?_
      rotate_left
      · intro w' hSw
        go_simp
        try with_reducible rfl
      try simp only [Act.put, List.getElem_toArray, List.getElem_cons_succ, List.getElem_cons_zero, List.setIfInBounds_toArray, List.set_cons_zero, List.set_cons_succ]
      refine wpAnyH_ready (rs := [17]) (by kernel_rfl) (by simp) ?_
      refine AllReadyH.cons rfl (fun K hK => ?_) AllReadyH.nil
      rw [if_pos (by kernel_rfl)]
      refine wp_store_row 148 _ _ rfl w1.heap.size #[.int .i64 r.lsn, .int .i64 r.turn, .int .u8 (r.kind : Int), .int .i64 r.tx, .int .i64 r.prev, .int .i64 r.next, .int .i64 r.block, .int .i64 r.off, .slice s.a1 r.old.length s.c1, .slice s.a2 r.new.length s.c2] rfl rfl 148 _ hz sizeR rfl (by simp; exact ⟨rfl, rfl, rfl, rfl, rfl, rfl, rfl, rfl, rfl, rfl⟩) ?_
      refine hK.out _ _ (hHeld.then (M := [w1.heap.size]) ⟨rfl, rfl, rfl, by simp, fun i _ hn => setRow_other _ _ i _ (fun e => hn (by simp [e]))⟩ (fun i hi hm => by simp at hm; omega)) (fun hHeld => ?_)
      clear hK K
      have R9 := setRow_heap _ w1.heap.size _ #[.int .i64 r.lsn, .int .i64 r.turn, .int .u8 (r.kind : Int), .int .i64 r.tx, .int .i64 r.prev, .int .i64 r.next, .int .i64 r.block, .int .i64 r.off, .slice s.a1 r.old.length s.c1, .slice s.a2 r.new.length s.c2] _ _ hz
      try simp only [Act.put, List.getElem_toArray, List.getElem_cons_succ, List.getElem_cons_zero]
      refine wpAnyH_take (i := 18) (v := ?_) rfl (by kernel_rfl) (by kernel_rfl) (by kernel_rfl) (fun _ _ _ h => h) (Or.inl ⟨by kernel_rfl, ?_⟩) hHeld ?_
      rotate_left
      · intro w' hSw
        go_simp
        try with_reducible rfl
      try simp only [Act.put, List.getElem_toArray, List.getElem_cons_succ, List.getElem_cons_zero, List.setIfInBounds_toArray, List.set_cons_zero, List.set_cons_succ]
      refine wpAnyH_take (i := 19) (v := ?_) rfl (by kernel_rfl) (by kernel_rfl) (by kernel_rfl) (fun _ _ _ h => h) (Or.inl ⟨by kernel_rfl, ?_⟩) hHeld ?_
      rotate_left
      · intro w' hSw
        go_simp
        try with_reducible rfl
      try simp only [Act.put, List.getElem_toArray, List.getElem_cons_succ, List.getElem_cons_zero, List.setIfInBounds_toArray, List.set_cons_zero, List.set_cons_succ]
      refine wpAnyH_done (by kernel_rfl) ?_ _
      go_wp2
      go_meet
      exact ⟨_, s, rfl, R9, new_base (ns9.kept (L := [w1.heap.size]) ⟨rfl, rfl, rfl, by simp, fun i _ hn => setRow_other _ _ i _ (fun e => hn (by simp [e]))⟩ (fun g' hg' cur t h => by simp at hg'; subst hg'; rw [hz] at h; cases h; decide)) (by simp), hHeld⟩
  obtain ⟨Z, s, rfl, R2, ns, f2⟩ := hcut
  have r1 := rR.kept f2 (by simp)
  have x0 := R2.c0
  have x1 := R2.c1
  have x2 := R2.c2
  have x3 := R2.c3
  have x4 := R2.c4
  have x5 := R2.c5
  have x6 := R2.c6
  have x7 := R2.c7
  have x8 := R2.c8
  have x9 := R2.c9
  go_wp2_with (refine wp_storeR rfl _ _ rfl w.heap.size _ r _ s rfl rfl r1 ?_; intro w3 r3 f3)
  refine bodyPost_ret (resR1 rfl _ _ w.heap.size r s rfl r3) rfl ⟨s, rfl, ?_, (f1.trans f2).then f3 (fun i hi hm => by simp at hm; omega)⟩
  exact (new_base ns f1.size).kept f3 (fun g' hg' cur t h => by simp at hg'; subst hg'; rw [r1] at h; cases h; decide)

end Go.Proofs.YthajipigppndgaaGreat

namespace Go.Proofs.YthajipigppndgaaGreat
open Go.RowKit Go.Maps

section
variable {ops : Array Oper} {rest : List Oper} {o : Oper} {a : Act} {w : World} {Q : Exit → Act → World → Prop}
end

end Go.Proofs.YthajipigppndgaaGreat

namespace Go.Proofs.YthajipigppndgaaGreat
open Go.RowKit Go.Maps

theorem src_of {w : World} {g c : Nat} {l : List UInt8} (h : RowB w g c l) : Dv.Src w g 0 l := by
  intro j v hv
  obtain ⟨b, off, e, hc⟩ := h.bytes j v hv
  cases e
  exact hc

end Go.Proofs.YthajipigppndgaaGreat

namespace Go.Proofs.YthajipigppndgaaGreat
open Go.RowKit Go.Maps

set_option maxHeartbeats 4000000 in
set_option maxRecDepth 100000 in
theorem laid_weak (w : World) (p d bs bo : Nat) (nb a : Int) (S O : Dv.Tab) (hd : Dv.Dev w d bs bo nb a false S O) (first count oldest safe : Int) (T F E P : Nat) (gb cb n : Nat) (ls : Value) (lb : List UInt8)
    (hx : LBox w p ⟨.pointer (some ⟨d, 0, none⟩), first, count, (T : Int), oldest, safe, (E : Int) + 1, .slice (some ⟨gb, 0, none⟩) n cb, (F : Int) + 1, ls⟩) (hl : lb.length = n) (hcb : n ≤ cb) (hb : BytesAt w (some ⟨gb, 0, none⟩) lb) (hn : F + n = E) (hP0 : F ≤ P) (hP1 : P < E) (hE : E < 4611686018427380000) (hT : T < 2147483648)
    (f0 : 0 ≤ first) (f1 : first + count ≤ nb) (f2 : first ≤ 65536) (c0 : 4 ≤ count) (c1 : count ≤ 65536) :
    Calls Tryz.prog 101 #[.pointer (some ⟨p, 0, none⟩), .int .i64 ((P : Int) + 1)] w fun e w' => ∃ g l, e = .returned (.tuple #[.slice (some ⟨g, 0, none⟩) 512 512, .int .i64 0]) ∧ RowB w' g 512 l ∧ l.length = 512 ∧ w.heap.size ≤ g ∧ Fr [] w w' := by
  have HL : Hid (lb.length = n) := hl
  have HX := hidI hx
  have HD := hidI hd
  have HB := hidI hb
  have HC : Hid (∀ w', Fr [] w w' → w'.cell? ⟨p, 6, none⟩ = some (.int .i64 ((E : Int) + 1)) ∧ w'.cell? ⟨p, 7, none⟩ = some (.slice (some ⟨gb, 0, none⟩) n cb) ∧ w'.cell? ⟨p, 8, none⟩ = some (.int .i64 ((F : Int) + 1)) ∧ w'.cell? ⟨p, 3, none⟩ = some (.int .i64 (T : Int))) := hidI (fun w' f => by
    have k := HX.out.kept f (by simp)
    exact ⟨k.c6, k.c7, k.c8, k.c3⟩)
  have HA : Hid (∀ w', Fr [] w w' → w'.cell? ⟨p, 0, none⟩ = some (.pointer (some ⟨d, 0, none⟩)) ∧ w'.cell? ⟨p, 1, none⟩ = some (.int .i64 first) ∧ w'.cell? ⟨p, 2, none⟩ = some (.int .i64 count)) := hidI (fun w' f => by
    have k := HX.out.kept f (by simp)
    exact ⟨k.c0, k.c1, k.c2⟩)
  have HDK : Hid (∀ w', Fr [] w w' → Dv.Dev w' d bs bo nb a false S O) := hidI (fun w' f => dev_kept HD.out f (by simp) (by simp) (by simp))
  have hm408 : P % 408 < 408 := Nat.mod_lt _ (by omega)
  obtain ⟨M, HM⟩ : ∃ M, Hid (P % 408 = M) := ⟨_, rfl⟩
  rw [HM.out] at hm408
  have HIB : Hid (∀ w', Calls Tryz.prog 100 #[.int .i64 ((P : Int) + 1)] w' fun e w'' => e = .returned (.int .i64 (M : Int)) ∧ w'' = w') := hidI (fun w' => by
    have := inBlock_any w' P (by omega)
    rw [HM.out] at this
    exact this)
  have hbl0 : 0 ≤ (P : Int) / 408 % count := Int.emod_nonneg _ (by omega)
  have hbl1 : (P : Int) / 408 % count < count := Int.emod_lt_of_pos _ (by omega)
  have hM0 : (0 : Int) ≤ (M : Int) := by omega
  have hM1 : (M : Int) < 408 := by omega
  clear hl hx hd hb
  go_enter Tryz.func101, Tryz.ntmps101
  go_upto_if 16 with (first
    | (refine wp_make rfl _ _ rfl 512 rfl rfl (by omega) ?_; intro w1 g hg1 b1 f1)
    | (go_at_call 100; refine (HIB.out _).mono ?_; rintro e wz ⟨rfl, hz⟩; rw [hz]; clear hz))
  go_cut [6] from 13 (fun s6 wx => ∃ g l, s6 = .slice (some ⟨g, 0, none⟩) 512 512 ∧ RowB wx g 512 l ∧ l.length = 512 ∧ w.heap.size ≤ g ∧ Fr [] w wx)
  case first =>
    by_cases hM : M = 0
    · have q : ¬ (0 : Int) < (M : Int) := by omega
      have q' : (M : Int) ≤ 0 := by omega
      clear hM
      go_wp2_with fail
      go_meet
      case rel => exact ⟨g, zs 512, rfl, b1.row, zs_length _, hg1, f1⟩
    · have q : (0 : Int) < (M : Int) := by omega
      clear hM
      go_wp2_with fail
      obtain ⟨W0, HW0⟩ : ∃ W0, Hid (W0 = w1) := ⟨_, rfl⟩
      have gg : Fr [] w w1.drew := f1.drew
      have kt := HA.out _ gg
      go_region_held3 (fun w' => w'.cell? ⟨p, 0, none⟩ = some (.pointer (some ⟨d, 0, none⟩)) ∧ w'.cell? ⟨p, 1, none⟩ = some (.int .i64 first) ∧ w'.cell? ⟨p, 2, none⟩ = some (.int .i64 count)) (first | exact HA.out _ gg)
        ((first
          | (go_at_call 103; refine (block_any _ _ first count P (by omega) f0 f2 c0 c1).mono ?_; rintro e w7 ⟨rfl, f7⟩; replace gg := gg.trans f7)
          | (go_at_call 170; refine (dread (HDK.out _ gg) _ (by omega) (by omega)).mono ?_; rintro e w8 ⟨g8, rfl, b8, hg8, f8⟩; have hgs := Nat.le_trans gg.size hg8; replace gg := gg.trans f8)))
      all_goals
        have r8 := b8.row
        rw [latest_len HD.out] at r8
        go_wp2_with fail
        go_meet
        case rel => exact ⟨g8, _, rfl, r8, latest_len HD.out _, hgs, gg⟩
  case rest =>
    obtain ⟨g, l, rfl, rb, hlen, hg, fc⟩ := hcut
    obtain ⟨BE, HBE⟩ : ∃ BE, Hid (P + (408 - M) = BE) := ⟨_, rfl⟩
    have hBE : P < BE := by rw [← HBE.out]; omega
    have hBM : Hid (BE % 51 = 0) := hidI (by rw [← HBE.out, ← HM.out]; omega)
    have hBi : (408 : Int) - (M : Int) = (BE : Int) - (P : Int) := by rw [← HBE.out]; omega
    have hw9 : IntKind.i64.wrap ((408 : Int) - (M : Int)) = (BE : Int) - (P : Int) := by rw [hBi]; exact wrapI _ (by omega) (by omega)
    have hBs : BE < P + 409 := by rw [← HBE.out]; omega
    clear hBi
    go_wp2_with (go_at_call 100; refine (HIB.out _).mono ?_; rintro e wz ⟨rfl, hz⟩; rw [hz]; clear hz)
    go_loopw [1, 9] (fun pl lf wr => ∃ (q : Nat) (l' : List UInt8), P ≤ q ∧ q ≤ BE ∧ pl = .int .i64 ((q : Int) + 1) ∧ lf = .int .i64 ((BE : Int) - (q : Int)) ∧ RowB wr g 512 l' ∧ l'.length = 512 ∧ Fr [g] wc wr) (fun _ lf _ => (intOf lf).toNat)
    case atStart => exact ⟨P, l, Nat.le_refl _, by omega, rfl, rfl, rb, hlen, Fr.refl _ _⟩
    case round =>
      obtain ⟨q, l', hq0, hq1, rfl, rfl, rb', hlen', fr⟩ := hrel
      have fw : Fr [] w wr := fc.then fr (fun i hi hm => by simp at hm; omega)
      obtain ⟨k6, k7, k8, k3⟩ := HC.out wr fw
      by_cases hlt : q < BE
      · have hpos : (0 : Int) < (BE : Int) - (q : Int) := by omega
        obtain ⟨A, HAq⟩ : ∃ A, Hid (q % 51 = A) := ⟨_, rfl⟩
        have hA : A < 51 := by rw [← HAq.out]; exact Nat.mod_lt _ (by omega)
        obtain ⟨o, HOq⟩ : ∃ o, Hid (q / 51 % 8 * 64 = o) := ⟨_, rfl⟩
        have ho : o + 64 ≤ 512 := by have := HOq.out; omega
        have hnx : q + (51 - A) ≤ BE := by have h1 := HAq.out; have h2 := hBM.out; omega
        have hs := sectorOf_any wr g 512 q (by omega) (by omega)
        rw [HOq.out] at hs
        have hi := inSector_any wr q (by omega)
        rw [HAq.out] at hi
        have HSO := hidI hs
        have HIS := hidI hi
        have hw51 : IntKind.i64.wrap (51 - (A : Int)) = 51 - (A : Int) := wrapI _ (by omega) (by omega)
        have hwq : IntKind.i64.wrap ((q : Int) + 1 + (51 - (A : Int))) = (q : Int) + 1 + (51 - (A : Int)) := wrapI _ (by omega) (by omega)
        have hwl : IntKind.i64.wrap ((BE : Int) - (q : Int) - (51 - (A : Int))) = (BE : Int) - (q : Int) - (51 - (A : Int)) := wrapI _ (by omega) (by omega)
        clear hs hi
        by_cases hqE : E < q
        · have hgt : ((E : Int) + 1) < ((q : Int) + 1) := by omega
          go_wp2_with (first
            | (go_at_call 171; refine HSO.out.mono ?_; rintro e wz ⟨rfl, hz⟩; rw [hz]; clear hz)
            | (go_at_call 172; refine HIS.out.mono ?_; rintro e wz ⟨rfl, hz⟩; rw [hz]; clear hz)
            | (refine wp_clearB rfl _ rfl _ g o 64 _ 512 _ rfl rb' (fun _ => rfl) (by omega) ?_; intro w6 r6 f6))
          refine ⟨⟨q + (51 - A), _, by omega, hnx, by go_num, by go_num, r6, by rw [over_length _ _ _ (by rw [zs_length]; omega)]; exact hlen', fr.trans f6⟩, by simp [intOf]; omega⟩
        · have hgt : ¬ ((E : Int) + 1) < ((q : Int) + 1) := by omega
          have hgt' : ((q : Int) + 1) ≤ ((E : Int) + 1) := by omega
          obtain ⟨X, HXa⟩ : ∃ X, Hid (13 + A = X) := ⟨_, rfl⟩
          obtain ⟨Y, HYa⟩ : ∃ Y, Hid (q - F = Y) := ⟨_, rfl⟩
          have hwX : IntKind.i64.wrap (13 + (A : Int)) = (X : Int) := by rw [← HXa.out]; exact wrapI _ (by omega) (by omega)
          have hwY : IntKind.i64.wrap ((q : Int) + 1 - ((F : Int) + 1)) = (Y : Int) := by rw [← HYa.out, show (q : Int) + 1 - ((F : Int) + 1) = ((q - F : Nat) : Int) by omega]; exact wrapI _ (by omega) (by omega)
          have hX1 : (X : Int) ≤ 64 := by rw [← HXa.out]; omega
          have hY1 : (Y : Int) ≤ (n : Int) := by rw [← HYa.out]; omega
          have hY2 : (Y : Int) ≤ (cb : Int) := by omega
          go_wp2_with (first
            | (go_at_call 171; refine HSO.out.mono ?_; rintro e wz ⟨rfl, hz⟩; rw [hz]; clear hz)
            | (go_at_call 172; refine HIS.out.mono ?_; rintro e wz ⟨rfl, hz⟩; rw [hz]; clear hz))
          obtain ⟨oY, HOY, hdpY⟩ : ∃ oY, Hid (cb = Y ∨ oY = Y) ∧ (if cb = Y then some (⟨gb, 0, none⟩ : Addr) else some ⟨gb, Y, none⟩) = some ⟨gb, oY, none⟩ := by
            by_cases e : cb = Y
            · exact ⟨0, Or.inl e, by rw [if_pos e]⟩
            · exact ⟨Y, Or.inr rfl, by rw [if_neg e]⟩
          have hXn : ¬ 512 - o = X := by rw [← HXa.out]; omega
          have hX0 : (0 : Int) ≤ (X : Int) := by omega
          have hY0 : (0 : Int) ≤ (Y : Int) := by omega
          have hXc : X ≤ 512 - o := by rw [← HXa.out]; omega
          have hXs : X ≤ 63 := by rw [← HXa.out]; omega
          have hYn : Y ≤ n := by omega
          obtain ⟨SL, HSL⟩ : ∃ SL, Hid ((lb.drop Y).take (Nat.min (n - Y) (64 - X)) = SL) := ⟨_, rfl⟩
          have HSN : Hid (SL.length = Nat.min (n - Y) (64 - X)) := hidI (by
            rw [← HSL.out, List.length_take, List.length_drop, HL.out]
            exact Nat.min_eq_left (Nat.min_le_left _ _))
          have hSU : A + SL.length ≤ 51 := by
            have h1 : SL.length = min (n - Y) (64 - X) := HSN.out
            have h3 := HXa.out
            omega
          have HSB : Hid (∀ w', Fr [] w w' → BytesAt w' (some ⟨gb, oY, none⟩) SL) := hidI (fun w' f => by
            rw [← HSL.out]
            rcases HOY.out with e | rfl
            · have h0 : n - Y = 0 := by omega
              rw [h0, show Nat.min 0 (64 - X) = 0 from Nat.zero_min _]
              simpa using BytesAt.nil w' (some ⟨gb, oY, none⟩)
            · have := (HB.out.kept f (by simp)).sub oY (Nat.min (n - oY) (64 - X))
              rw [Nat.zero_add] at this
              exact this)
          have hwA : IntKind.i64.wrap ((q : Int) + 1 - (A : Int)) = ((q + 1 - A : Nat) : Int) := by
            have h1 := HAq.out
            rw [show (q : Int) + 1 - (A : Int) = ((q + 1 - A : Nat) : Int) by omega]
            exact wrapI _ (by omega) (by omega)
          have hwU : IntKind.i64.wrap ((A : Int) + (SL.length : Int)) = ((A + SL.length : Nat) : Int) := by
            rw [Int.natCast_add]
            exact wrapI _ (by omega) (by omega)
          have RB := hidI rb'
          go_region_law ((refine step_copyB (by rfl) _ _ (by rfl) g (o + X) _ (64 - X) _ (some ⟨gb, oY, none⟩) (n - Y) _ 512 l' SL rfl rfl RB.out HSN.out (fun _ => rfl) (HSB.out _ fw.drew) (by have h1 : SL.length = min (n - Y) (64 - X) := HSN.out; omega) ?_; intro w5 r5 f5))
          all_goals
            have fw5 : Fr [] w w5 := fw.then ((Fr.refl [g] wr).drew.trans f5) (fun i hi hm => by simp at hm; omega)
            have c35 := (HC.out w5 fw5).2.2.2
            have R5 := hidI r5
            clear k6 k7 k8 k3
            go_wp2_with fail
            refine (seal_any w5 g 512 o (512 - o) _ R5.out (q + 1 - A) T (A + SL.length) (by omega) (by omega) hSU (by rw [over_length _ _ _ (by have h1 : SL.length = min (n - Y) (64 - X) := HSN.out; omega)]; omega) (by omega)).mono ?_
            rintro e w6 ⟨rfl, r6, f6⟩
            go_wp2_with fail
            refine ⟨⟨q + (51 - A), _, by omega, hnx, by go_num, by go_num, r6, ?_, fr.trans (((Fr.refl [g] wr).drew.trans f5).trans f6)⟩, by simp [intOf]; omega⟩
            have e1 : (over l' (o + X) SL).length = 512 := by
              rw [over_length _ _ _ (by have h1 : SL.length = min (n - Y) (64 - X) := HSN.out; omega)]
              exact hlen'
            have e2 : (over (over l' (o + X) SL) o (stampL (q + 1 - A) T (A + SL.length))).length = 512 := by
              rw [over_length _ _ _ (by rw [e1, stampL_length]; omega)]
              exact e1
            rw [over_length _ _ _ (by rw [e2, zs_length]; omega)]
            exact e2
      · obtain rfl : q = BE := by omega
        have hz0 : ¬ (0 : Int) < (q : Int) - (q : Int) := by omega
        go_wp2_with fail
        go_ret2
        exact ⟨g, rfl, l', rb', hlen', hg, fw⟩

end Go.Proofs.YthajipigppndgaaGreat

