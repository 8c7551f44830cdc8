/-
  A log's records told: the program's Read and From, where there is one.
-/
import Derived.Test.YtopaeomjndblkaaGreatX03Z
namespace Go.Proofs.YtopaeomjndblkaaGreat
open Go.RowKit Go.Maps

set_option maxHeartbeats 400000 in
theorem nan1_any (w : World) (x : Int) : Calls Tryz.prog 277 #[.int .i64 x] w fun e w' => e = .returned (.bool false) ∧ w' = w := by
  have h : (x != x) = false := by simp
  go_enter Tryz.func277, Tryz.ntmps277
  go_wp2
  go_ret
  exact ⟨rfl, rfl⟩
set_option maxHeartbeats 400000 in
theorem less_same (w : World) (x : Int) : Calls Tryz.prog 241 #[.int .i64 x, .int .i64 x] w fun e w' => e = .returned (.bool false) ∧ w' = w := by
  have h : ¬ x < x := by omega
  go_enter Tryz.func241, Tryz.ntmps241
  go_wp2_with (go_at_call 277; refine (nan1_any _ _).mono ?_; rintro e w' ⟨rfl, rfl⟩)
  go_ret
  exact ⟨rfl, rfl⟩
set_option maxHeartbeats 400000 in
set_option maxRecDepth 100000 in
theorem bin_one (w : World) (g c : Nat) (k : Int) (hg : w.cell? ⟨g, 0, none⟩ = some (.int .i64 k)) : Calls Tryz.prog 203 #[.slice (some ⟨g, 0, none⟩) 1 c, .int .i64 k] w fun e w' => e = .returned (.tuple #[.int .i64 0, .bool true]) ∧ w' = w := by
  have hk : (k == k) = true := by simp
  go_enter Tryz.func203, Tryz.ntmps203
  go_wp2
  go_loopw [7, 8] (fun i j wr => i = .int .i64 0 ∧ wr = w ∧ (j = .int .i64 1 ∨ j = .int .i64 0)) (fun _ j _ => (intOf j).toNat)
  case atStart => exact ⟨rfl, rfl, Or.inl rfl⟩
  case round =>
    obtain ⟨rfl, hwr, hj⟩ := hrel
    subst hwr
    rcases hj with rfl | rfl
    · go_wp2_with (go_at_call 241; refine (less_same _ _).mono ?_; rintro e wr ⟨rfl, rfl⟩)
      exact ⟨by simp, by simp [intOf]⟩
    · go_wp2_with fail
      go_ret2
      exact ⟨rfl, rfl⟩

theorem resR1 {fn : Func} {p : Tmp} (h : fn.results = #[.cell p 192]) (tmps : Array Value) (w : World) (b : Nat) (r : Rec) (s : Spots) (hp : tmps.getD p undef = .pointer (some ⟨b, 0, none⟩)) (hg : RBox w b r s) :
    (results fn tmps).run Tryz.prog w = .ok (.agg (recV r s)) w := by
  have hl := run_loadVar_row w b 192 192 (recV r s) (0, 0) _ hg Tryz.underlying192 rfl (by rw [sizeR]; rfl)
  have hp2 : tmps[p]?.getD undef = .pointer (some ⟨b, 0, none⟩) := by simpa using hp
  simp only [results, h]
  simp [hp2, asAddr, hl]
theorem resR2 {fn : Func} {p q : Tmp} (h : fn.results = #[.cell p 192, .tmp q]) (tmps : Array Value) (w : World) (b : Nat) (r : Rec) (s : Spots) (hp : tmps.getD p undef = .pointer (some ⟨b, 0, none⟩)) (hg : RBox w b r s) :
    (results fn tmps).run Tryz.prog w = .ok (.tuple #[.agg (recV r s), tmps.getD q undef]) w := by
  have hl := run_loadVar_row w b 192 192 (recV r s) (0, 0) _ hg Tryz.underlying192 rfl (by rw [sizeR]; rfl)
  have hp2 : tmps[p]?.getD undef = .pointer (some ⟨b, 0, none⟩) := by simpa using hp
  simp only [results, h]
  simp [hp2, asAddr, hl]

end Go.Proofs.YtopaeomjndblkaaGreat

namespace Go.Proofs.YtopaeomjndblkaaGreat
open Go.RowKit Go.Maps

set_option maxHeartbeats 1000000 in
set_option maxRecDepth 100000 in
theorem record_one (w : World) (p : Nat) (dv : Value) (first count turn oldest safe fin k : Int) (ls : Value) (g n c : Nat) (l : List UInt8) (r : Rec) (hx : LBox w p ⟨dv, first, count, turn, oldest, safe, fin, .slice (some ⟨g, 0, none⟩) n c, k, ls⟩) (hb : BytesAt w (some ⟨g, 0, none⟩) l) (hl : l.length = n) (hn0 : 1 ≤ n) (hn : n ≤ 100000) (hc : n ≤ c) (hd : decR l = some (r, n)) :
    Calls Tryz.prog 236 #[.pointer (some ⟨p, 0, none⟩), .int .i64 k] w fun e w' => ∃ s, e = .returned (.agg (recV r s)) ∧ NewSpots w w' r s ∧ Fr [] w w' := by
  have hc0 : ¬ c = 0 := by omega
  have hnc : (n : Int) ≤ c := by omega
  have hkk : IntKind.i64.wrap (k - k) = 0 := by rw [Int.sub_self]; rfl
  have hnn : (0 : Int) ≤ n := by omega
  have w00 : IntKind.i64.wrap 0 = 0 := rfl
  have rR : RBox (w.alloc (.cells #[.int .i64 0, .int .i64 0, .int .u8 0, .int .i64 0, .int .i64 0, .int .i64 0, .int .i64 0, .int .i64 0, .slice none 0 0, .slice none 0 0] 192)) w.heap.size (zeroR 0 0) zeroS := heap_alloc_new w _
  have f1 := (Fr.refl [] w).alloc (.cells #[.int .i64 0, .int .i64 0, .int .u8 0, .int .i64 0, .int .i64 0, .int .i64 0, .int .i64 0, .int .i64 0, .slice none 0 0, .slice none 0 0] 192)
  go_enter Tryz.func236, Tryz.ntmps236
  go_wp2_with fail
  generalize w.alloc (.cells #[.int .i64 0, .int .i64 0, .int .u8 0, .int .i64 0, .int .i64 0, .int .i64 0, .int .i64 0, .int .i64 0, .slice none 0 0, .slice none 0 0] 192) = w1 at rR f1 ⊢
  have L1 := hx.kept f1 (by simp)
  have b1 := hb.kept f1 (by simp)
  go_cut [5] from 9 (fun s5 wx => ∃ Z s, s5 = .pointer (some ⟨Z, 0, none⟩) ∧ RBox wx Z r s ∧ NewSpots w1 wx r s ∧ Fr [] w1 wx)
  case first => as_aux_lemma =>
    have SG : Hid (∀ w', Fr [] w1 w' → Calls Tryz.prog 227 #[.slice (some ⟨g, 0, none⟩) n c] w' fun e w'' => ∃ s, e = .returned (.tuple #[.agg (recV r s), .int .i64 (n : Int), .int .i64 0]) ∧ Hid (NewSpots w' w'' r s ∧ Fr [] w' w'')) := hidI (fun w' f => (get_any w' _ n c l hl hc hn (b1.kept f (by simp))).mono (by
      rintro e w'' h
      rcases h with ⟨h1, _⟩ | ⟨r2, n2, s, h1, rfl, h2, h3⟩
      · rw [hd] at h1; cases h1
      · rw [hd] at h1; cases h1; exact ⟨s, rfl, hidI ⟨h2, h3⟩⟩))
    unfold recV at SG
    have HL1 := hidI L1
    refine wp_region_held_drew (S := fun w' => Fr [] w1 w') (by kernel_rfl) (Fr.refl _ _).drew (fun hHeld => ?_)
    refine wpAnyH_take (i := 0) (v := ?_) rfl (by kernel_rfl) (by kernel_rfl) (by kernel_rfl) (fun _ _ _ h => h) (Or.inl ⟨by kernel_rfl, ?_⟩) hHeld ?_
    rotate_left
    · intro w' hSw
      go_simp
      try with_reducible rfl
    try simp only [Act.put, List.getElem_toArray, List.getElem_cons_zero, List.setIfInBounds_toArray, List.set_cons_zero, List.set_cons_succ]
    refine wpAnyH_take (i := 1) (v := ?_) rfl (by kernel_rfl) (by kernel_rfl) (by kernel_rfl) (fun _ _ _ h => h) (Or.inl ⟨by kernel_rfl, ?_⟩) hHeld ?_
    rotate_left
    · intro w' hSw
      go_simp
      try with_reducible rfl
    try simp only [Act.put, List.getElem_toArray, List.getElem_cons_succ, List.getElem_cons_zero, List.setIfInBounds_toArray, List.set_cons_zero, List.set_cons_succ]
    refine wpAnyH_take (i := 2) (v := ?_) rfl (by kernel_rfl) (by kernel_rfl) (by kernel_rfl) (fun _ _ _ h => h) (Or.inl ⟨by kernel_rfl, ?_⟩) hHeld ?_
    rotate_left
    · intro w' hSw
      go_simp
      try with_reducible rfl
    try simp only [Act.put, List.getElem_toArray, List.getElem_cons_succ, List.getElem_cons_zero, List.setIfInBounds_toArray, List.set_cons_zero, List.set_cons_succ]
    refine wpAnyH_take (i := 3) (v := ?_) rfl (by kernel_rfl) (by kernel_rfl) (by kernel_rfl) (fun _ _ _ h => h) (Or.inl ⟨by kernel_rfl, ?_⟩) hHeld ?_
    rotate_left
    · intro w' hSw
      have k7 : w'.cell? ⟨p, 7, none⟩ = some (.slice (some ⟨g, 0, none⟩) n c) := (HL1.out.kept hSw (by simp)).c7
      go_simp
      try with_reducible rfl
    try simp only [Act.put, List.getElem_toArray, List.getElem_cons_succ, List.getElem_cons_zero, List.setIfInBounds_toArray, List.set_cons_zero, List.set_cons_succ]
    refine wpAnyH_take (i := 4) (v := ?_) rfl (by kernel_rfl) (by kernel_rfl) (by kernel_rfl) (fun _ _ _ h => h) (Or.inl ⟨by kernel_rfl, ?_⟩) hHeld ?_
    rotate_left
    · intro w' hSw
      go_simp
      try with_reducible rfl
    try simp only [Act.put, List.getElem_toArray, List.getElem_cons_succ, List.getElem_cons_zero, List.setIfInBounds_toArray, List.set_cons_zero, List.set_cons_succ]
    refine wpAnyH_take (i := 5) (v := ?_) rfl (by kernel_rfl) (by kernel_rfl) (by kernel_rfl) (fun _ _ _ h => h) (Or.inl ⟨by kernel_rfl, ?_⟩) hHeld ?_
    rotate_left
    · intro w' hSw
      go_simp
      try with_reducible rfl
    try simp only [Act.put, List.getElem_toArray, List.getElem_cons_succ, List.getElem_cons_zero, List.setIfInBounds_toArray, List.set_cons_zero, List.set_cons_succ]
    refine wpAnyH_take (i := 6) (v := ?_) rfl (by kernel_rfl) (by kernel_rfl) (by kernel_rfl) (fun _ _ _ h => h) (Or.inl ⟨by kernel_rfl, ?_⟩) hHeld ?_
    rotate_left
    · intro w' hSw
      go_simp
      try with_reducible rfl
    try simp only [Act.put, List.getElem_toArray, List.getElem_cons_succ, List.getElem_cons_zero, List.setIfInBounds_toArray, List.set_cons_zero, List.set_cons_succ]
    refine wpAnyH_take (i := 7) (v := ?_) rfl (by kernel_rfl) (by kernel_rfl) (by kernel_rfl) (fun _ _ _ h => h) (Or.inl ⟨by kernel_rfl, ?_⟩) hHeld ?_
    rotate_left
    · intro w' hSw
      go_simp
      try with_reducible rfl
    try simp only [Act.put, List.getElem_toArray, List.getElem_cons_succ, List.getElem_cons_zero, List.setIfInBounds_toArray, List.set_cons_zero, List.set_cons_succ]
    refine wpAnyH_take (i := 8) (v := ?_) rfl (by kernel_rfl) (by kernel_rfl) (by kernel_rfl) (fun _ _ _ h => h) (Or.inl ⟨by kernel_rfl, ?_⟩) hHeld ?_
    rotate_left
    · intro w' hSw
      have k8 : w'.cell? ⟨p, 8, none⟩ = some (.int .i64 k) := (HL1.out.kept hSw (by simp)).c8
      go_simp
      try with_reducible rfl
    try simp only [Act.put, List.getElem_toArray, List.getElem_cons_succ, List.getElem_cons_zero, List.setIfInBounds_toArray, List.set_cons_zero, List.set_cons_succ]
    refine wpAnyH_take (i := 9) (v := ?_) rfl (by kernel_rfl) (by kernel_rfl) (by kernel_rfl) (fun _ _ _ h => h) (Or.inl ⟨by kernel_rfl, ?_⟩) hHeld ?_
    rotate_left
    · intro w' hSw
      go_simp
      try with_reducible rfl
    try simp only [Act.put, List.getElem_toArray, List.getElem_cons_succ, List.getElem_cons_zero, List.setIfInBounds_toArray, List.set_cons_zero, List.set_cons_succ]
    refine wpAnyH_take (i := 10) (v := ?_) rfl (by kernel_rfl) (by kernel_rfl) (by kernel_rfl) (fun _ _ _ h => h) (Or.inl ⟨by kernel_rfl, ?_⟩) hHeld ?_
    rotate_left
    · intro w' hSw
      go_simp
      try with_reducible rfl
    try simp only [Act.put, List.getElem_toArray, List.getElem_cons_succ, List.getElem_cons_zero, List.setIfInBounds_toArray, List.set_cons_zero, List.set_cons_succ]
    refine wpAnyH_ready (rs := [11, 16]) (by kernel_rfl) (by simp) ?_
    refine AllReadyH.cons rfl (fun K hK => ?_) (AllReadyH.cons rfl (fun K hK => ?_) AllReadyH.nil)
    · rw [if_pos (by kernel_rfl)]
      go_wp2_with (go_at_call 227; refine (SG.out _ hHeld).mono ?_; rintro e w7 ⟨s, rfl, HS⟩)
      refine hK.out _ _ (hHeld.trans HS.out.2) (fun hHeld => ?_)
      clear hK K
      try simp only [Act.put, List.getElem_toArray, List.getElem_cons_succ, List.getElem_cons_zero, List.setIfInBounds_toArray, List.set_cons_zero, List.set_cons_succ]
      refine wpAnyH_take (i := 12) (v := ?_) rfl (by kernel_rfl) (by kernel_rfl) (by kernel_rfl) (fun _ _ _ h => h) (Or.inl ⟨by kernel_rfl, ?_⟩) hHeld ?_
      rotate_left
      · intro w' hSw
        go_simp
        try with_reducible rfl
      try simp only [Act.put, List.getElem_toArray, List.getElem_cons_succ, List.getElem_cons_zero, List.setIfInBounds_toArray, List.set_cons_zero, List.set_cons_succ]
      refine wpAnyH_take (i := 13) (v := ?_) rfl (by kernel_rfl) (by kernel_rfl) (by kernel_rfl) (fun _ _ _ h => h) (Or.inl ⟨by kernel_rfl, ?_⟩) hHeld ?_
      rotate_left
      · intro w' hSw
        go_simp
        try with_reducible rfl
      try simp only [Act.put, List.getElem_toArray, List.getElem_cons_succ, List.getElem_cons_zero, List.setIfInBounds_toArray, List.set_cons_zero, List.set_cons_succ]
      refine wpAnyH_take (i := 14) (v := ?_) rfl (by kernel_rfl) (by kernel_rfl) (by kernel_rfl) (fun _ _ _ h => h) (Or.inl ⟨by kernel_rfl, ?_⟩) hHeld ?_
      rotate_left
      · intro w' hSw
        go_simp
        try with_reducible rfl
      try simp only [Act.put, List.getElem_toArray, List.getElem_cons_succ, List.getElem_cons_zero, List.setIfInBounds_toArray, List.set_cons_zero, List.set_cons_succ]
      refine wpAnyH_take (i := 15) (v := ?_) rfl (by kernel_rfl) (by kernel_rfl) (by kernel_rfl) (fun _ _ _ h => h) (Or.inl ⟨by kernel_rfl, ?_⟩) hHeld ?_
      rotate_left
      · intro w' hSw
        go_simp
        try with_reducible rfl
      try simp only [Act.put, List.getElem_toArray, List.getElem_cons_succ, List.getElem_cons_zero, List.setIfInBounds_toArray, List.set_cons_zero, List.set_cons_succ]
      refine wpAnyH_ready (rs := [16]) (by kernel_rfl) (by simp) ?_
      refine AllReadyH.cons rfl (fun K hK => ?_) AllReadyH.nil
      rw [if_pos (by kernel_rfl)]
      go_wp2_with fail
      refine hK.out _ _ (hHeld.alloc _) (fun hHeld => ?_)
      clear hK K
      try simp only [Act.put, List.getElem_toArray, List.getElem_cons_succ, List.getElem_cons_zero, List.setIfInBounds_toArray, List.set_cons_zero, List.set_cons_succ]
      have hz : RBox (w7.alloc (.cells #[.int .i64 0, .int .i64 0, .int .u8 0, .int .i64 0, .int .i64 0, .int .i64 0, .int .i64 0, .int .i64 0, .slice none 0 0, .slice none 0 0] 192)) w7.heap.size (zeroR 0 0) zeroS := heap_alloc_new w7 _
      have ns9 := HS.out.1
      have hs9 : w1.heap.size ≤ w7.heap.size := HS.out.2.size
      refine wpAnyH_ready (rs := [17]) (by kernel_rfl) (by simp) ?_
      refine AllReadyH.cons rfl (fun K hK => ?_) AllReadyH.nil
      rw [if_pos (by kernel_rfl)]
      refine wp_store_row 192 _ _ rfl w7.heap.size #[.int .i64 r.lsn, .int .i64 r.turn, .int .u8 (r.kind : Int), .int .i64 r.tx, .int .i64 r.prev, .int .i64 r.next, .int .i64 r.block, .int .i64 r.off, .slice s.a1 r.old.length s.c1, .slice s.a2 r.new.length s.c2] rfl rfl 192 _ hz sizeR rfl (by simp; exact ⟨rfl, rfl, rfl, rfl, rfl, rfl, rfl, rfl, rfl, rfl⟩) ?_
      refine hK.out _ _ (hHeld.then (M := [w7.heap.size]) ⟨rfl, rfl, rfl, by simp, fun i _ hn => setRow_other _ _ i _ (fun e => hn (by simp [e]))⟩ (fun i hi hm => by simp at hm; omega)) (fun hHeld => ?_)
      clear hK K
      have R9 := setRow_heap _ w7.heap.size _ #[.int .i64 r.lsn, .int .i64 r.turn, .int .u8 (r.kind : Int), .int .i64 r.tx, .int .i64 r.prev, .int .i64 r.next, .int .i64 r.block, .int .i64 r.off, .slice s.a1 r.old.length s.c1, .slice s.a2 r.new.length s.c2] _ _ hz
      try simp only [Act.put, List.getElem_toArray, List.getElem_cons_succ, List.getElem_cons_zero]
      refine wpAnyH_take (i := 18) (v := ?_) rfl (by kernel_rfl) (by kernel_rfl) (by kernel_rfl) (fun _ _ _ h => h) (Or.inl ⟨by kernel_rfl, ?_⟩) hHeld ?_
      rotate_left
      · intro w' hSw
        go_simp
        try with_reducible rfl
      try simp only [Act.put, List.getElem_toArray, List.getElem_cons_succ, List.getElem_cons_zero, List.setIfInBounds_toArray, List.set_cons_zero, List.set_cons_succ]
      refine wpAnyH_take (i := 19) (v := ?_) rfl (by kernel_rfl) (by kernel_rfl) (by kernel_rfl) (fun _ _ _ h => h) (Or.inl ⟨by kernel_rfl, ?_⟩) hHeld ?_
      rotate_left
      · intro w' hSw
        go_simp
        try with_reducible rfl
      try simp only [Act.put, List.getElem_toArray, List.getElem_cons_succ, List.getElem_cons_zero, List.setIfInBounds_toArray, List.set_cons_zero, List.set_cons_succ]
      refine wpAnyH_done (by kernel_rfl) ?_ _
      go_wp2
      go_meet
      exact ⟨_, s, rfl, R9, new_base ((ns9.kept (L := []) ((Fr.refl [] _).alloc _) (fun g' hg' => nomatch hg')).kept (L := [w7.heap.size]) ⟨rfl, rfl, rfl, by simp, fun i _ hn => setRow_other _ _ i _ (fun e => hn (by simp [e]))⟩ (fun g' hg' cur t h => by simp at hg'; subst hg'; rw [hz] at h; cases h; decide)) (by simp), hHeld⟩
    · rw [if_pos (by kernel_rfl)]
      go_wp2_with fail
      refine hK.out _ _ (hHeld.alloc _) (fun hHeld => ?_)
      clear hK K
      try simp only [Act.put, List.getElem_toArray, List.getElem_cons_succ, List.getElem_cons_zero, List.setIfInBounds_toArray, List.set_cons_zero, List.set_cons_succ]
      have hz0 : RBox (w1.drew.alloc (.cells #[.int .i64 0, .int .i64 0, .int .u8 0, .int .i64 0, .int .i64 0, .int .i64 0, .int .i64 0, .int .i64 0, .slice none 0 0, .slice none 0 0] 192)) w1.heap.size (zeroR 0 0) zeroS := heap_alloc_new w1.drew _
      refine wpAnyH_ready (rs := [11]) (by kernel_rfl) (by simp) ?_
      refine AllReadyH.cons rfl (fun K hK => ?_) AllReadyH.nil
      rw [if_pos (by kernel_rfl)]
      go_wp2_with (go_at_call 227; refine (SG.out _ hHeld).mono ?_; rintro e w7 ⟨s, rfl, HS⟩)
      refine hK.out _ _ (hHeld.trans HS.out.2) (fun hHeld => ?_)
      clear hK K
      have hz : RBox w7 w1.heap.size (zeroR 0 0) zeroS := hz0.kept HS.out.2 (by simp)
      have ns9 := HS.out.1
      have hs9 := HS.out.2.size
      try simp only [Act.put, List.getElem_toArray, List.getElem_cons_succ, List.getElem_cons_zero, List.setIfInBounds_toArray, List.set_cons_zero, List.set_cons_succ]
      refine wpAnyH_take (i := 12) (v := ?_) rfl (by kernel_rfl) (by kernel_rfl) (by kernel_rfl) (fun _ _ _ h => h) (Or.inl ⟨by kernel_rfl, ?_⟩) hHeld ?_
      rotate_left
      · intro w' hSw
        go_simp
        try with_reducible rfl
      try simp only [Act.put, List.getElem_toArray, List.getElem_cons_succ, List.getElem_cons_zero, List.setIfInBounds_toArray, List.set_cons_zero, List.set_cons_succ]
      refine wpAnyH_take (i := 13) (v := ?_) rfl (by kernel_rfl) (by kernel_rfl) (by kernel_rfl) (fun _ _ _ h => h) (Or.inl ⟨by kernel_rfl, ?_⟩) hHeld ?_
      rotate_left
      · intro w' hSw
        go_simp
        try with_reducible rfl
      try simp only [Act.put, List.getElem_toArray, List.getElem_cons_succ, List.getElem_cons_zero, List.setIfInBounds_toArray, List.set_cons_zero, List.set_cons_succ]
      refine wpAnyH_take (i := 14) (v := ?_) rfl (by kernel_rfl) (by kernel_rfl) (by kernel_rfl) (fun _ _ _ h => h) (Or.inl ⟨by kernel_rfl, ?_⟩) hHeld ?_
      rotate_left
      · intro w' hSw
        go_simp
        try with_reducible rfl
      try simp only [Act.put, List.getElem_toArray, List.getElem_cons_succ, List.getElem_cons_zero, List.setIfInBounds_toArray, List.set_cons_zero, List.set_cons_succ]
      refine wpAnyH_take (i := 15) (v := ?_) rfl (by kernel_rfl) (by kernel_rfl) (by kernel_rfl) (fun _ _ _ h => h) (Or.inl ⟨by kernel_rfl, ?_⟩) hHeld ?_
      rotate_left
      · intro w' hSw
        go_simp
        try with_reducible rfl
      try simp only [Act.put, List.getElem_toArray, List.getElem_cons_succ, List.getElem_cons_zero, List.setIfInBounds_toArray, List.set_cons_zero, List.set_cons_succ]
      refine wpAnyH_ready (rs := [17]) (by kernel_rfl) (by simp) ?_
      refine AllReadyH.cons rfl (fun K hK => ?_) AllReadyH.nil
      rw [if_pos (by kernel_rfl)]
      refine wp_store_row 192 _ _ rfl w1.heap.size #[.int .i64 r.lsn, .int .i64 r.turn, .int .u8 (r.kind : Int), .int .i64 r.tx, .int .i64 r.prev, .int .i64 r.next, .int .i64 r.block, .int .i64 r.off, .slice s.a1 r.old.length s.c1, .slice s.a2 r.new.length s.c2] rfl rfl 192 _ hz sizeR rfl (by simp; exact ⟨rfl, rfl, rfl, rfl, rfl, rfl, rfl, rfl, rfl, rfl⟩) ?_
      refine hK.out _ _ (hHeld.then (M := [w1.heap.size]) ⟨rfl, rfl, rfl, by simp, fun i _ hn => setRow_other _ _ i _ (fun e => hn (by simp [e]))⟩ (fun i hi hm => by simp at hm; omega)) (fun hHeld => ?_)
      clear hK K
      have R9 := setRow_heap _ w1.heap.size _ #[.int .i64 r.lsn, .int .i64 r.turn, .int .u8 (r.kind : Int), .int .i64 r.tx, .int .i64 r.prev, .int .i64 r.next, .int .i64 r.block, .int .i64 r.off, .slice s.a1 r.old.length s.c1, .slice s.a2 r.new.length s.c2] _ _ hz
      try simp only [Act.put, List.getElem_toArray, List.getElem_cons_succ, List.getElem_cons_zero]
      refine wpAnyH_take (i := 18) (v := ?_) rfl (by kernel_rfl) (by kernel_rfl) (by kernel_rfl) (fun _ _ _ h => h) (Or.inl ⟨by kernel_rfl, ?_⟩) hHeld ?_
      rotate_left
      · intro w' hSw
        go_simp
        try with_reducible rfl
      try simp only [Act.put, List.getElem_toArray, List.getElem_cons_succ, List.getElem_cons_zero, List.setIfInBounds_toArray, List.set_cons_zero, List.set_cons_succ]
      refine wpAnyH_take (i := 19) (v := ?_) rfl (by kernel_rfl) (by kernel_rfl) (by kernel_rfl) (fun _ _ _ h => h) (Or.inl ⟨by kernel_rfl, ?_⟩) hHeld ?_
      rotate_left
      · intro w' hSw
        go_simp
        try with_reducible rfl
      try simp only [Act.put, List.getElem_toArray, List.getElem_cons_succ, List.getElem_cons_zero, List.setIfInBounds_toArray, List.set_cons_zero, List.set_cons_succ]
      refine wpAnyH_done (by kernel_rfl) ?_ _
      go_wp2
      go_meet
      exact ⟨_, s, rfl, R9, new_base (ns9.kept (L := [w1.heap.size]) ⟨rfl, rfl, rfl, by simp, fun i _ hn => setRow_other _ _ i _ (fun e => hn (by simp [e]))⟩ (fun g' hg' cur t h => by simp at hg'; subst hg'; rw [hz] at h; cases h; decide)) (by simp), hHeld⟩
  obtain ⟨Z, s, rfl, R2, ns, f2⟩ := hcut
  have r1 := rR.kept f2 (by simp)
  have x0 := R2.c0
  have x1 := R2.c1
  have x2 := R2.c2
  have x3 := R2.c3
  have x4 := R2.c4
  have x5 := R2.c5
  have x6 := R2.c6
  have x7 := R2.c7
  have x8 := R2.c8
  have x9 := R2.c9
  go_wp2_with (refine wp_storeR rfl _ _ rfl w.heap.size _ r _ s rfl rfl r1 ?_; intro w3 r3 f3)
  refine bodyPost_ret (resR1 rfl _ _ w.heap.size r s rfl r3) rfl ⟨s, rfl, ?_, (f1.trans f2).then f3 (fun i hi hm => by simp at hm; omega)⟩
  exact (new_base ns f1.size).kept f3 (fun g' hg' cur t h => by simp at hg'; subst hg'; rw [r1] at h; cases h; decide)

end Go.Proofs.YtopaeomjndblkaaGreat

namespace Go.Proofs.YtopaeomjndblkaaGreat
open Go.RowKit Go.Maps

set_option maxHeartbeats 1000000 in
set_option maxRecDepth 100000 in
theorem record_any (w : World) (p : Nat) (dv : Value) (first count turn oldest safe fin k0 k : Int) (ls : Value) (g N c o n C : Nat) (lb : List UInt8) (m : Nat) (r : Rec) (hx : LBox w p ⟨dv, first, count, turn, oldest, safe, fin, .slice (some ⟨g, 0, none⟩) N c, k0, ls⟩) (hb : BytesAt w (some ⟨g, 0, none⟩) lb) (hl : lb.length = N) (ho : o < N) (hN : N = o + n) (hC : c = o + C) (hn : n ≤ 100000) (hc : N ≤ c) (hk : IntKind.i64.wrap (k - k0) = (o : Int)) (hd : decR (lb.drop o) = some (r, m)) :
    Calls Tryz.prog 236 #[.pointer (some ⟨p, 0, none⟩), .int .i64 k] w fun e w' => ∃ s, e = .returned (.agg (recV r s)) ∧ NewSpots w w' r s ∧ Fr [] w w' := by
  have hc0 : ¬ c = o := by omega
  have hnc : (N : Int) ≤ c := by omega
  have hon : (o : Int) ≤ N := by omega
  have hnn : (0 : Int) ≤ o := by omega
  have e1 : N - o = n := by omega
  have e2 : c - o = C := by omega
  have b0 : BytesAt w (some ⟨g, 0 + o, none⟩) ((lb.drop o).take n) := hb.sub o n
  have hdl : (lb.drop o).length = n := by rw [List.length_drop]; omega
  rw [List.take_of_length_le (by omega), Nat.zero_add] at b0
  have HCC : Hid (n ≤ C) := hidI (by omega)
  have HDL := hidI hdl
  have HN := hidI hN
  have HC := hidI hC
  clear hdl hN hC hb hl hc
  have rR : RBox (w.alloc (.cells #[.int .i64 0, .int .i64 0, .int .u8 0, .int .i64 0, .int .i64 0, .int .i64 0, .int .i64 0, .int .i64 0, .slice none 0 0, .slice none 0 0] 192)) w.heap.size (zeroR 0 0) zeroS := heap_alloc_new w _
  have f1 := (Fr.refl [] w).alloc (.cells #[.int .i64 0, .int .i64 0, .int .u8 0, .int .i64 0, .int .i64 0, .int .i64 0, .int .i64 0, .int .i64 0, .slice none 0 0, .slice none 0 0] 192)
  go_enter Tryz.func236, Tryz.ntmps236
  go_wp2_with fail
  generalize w.alloc (.cells #[.int .i64 0, .int .i64 0, .int .u8 0, .int .i64 0, .int .i64 0, .int .i64 0, .int .i64 0, .int .i64 0, .slice none 0 0, .slice none 0 0] 192) = w1 at rR f1 ⊢
  have L1 := hx.kept f1 (by simp)
  have b1 := b0.kept f1 (by simp)
  go_cut [5] from 9 (fun s5 wx => ∃ Z s, s5 = .pointer (some ⟨Z, 0, none⟩) ∧ RBox wx Z r s ∧ NewSpots w1 wx r s ∧ Fr [] w1 wx)
  case first => as_aux_lemma =>
    have SG : Hid (∀ w', Fr [] w1 w' → Calls Tryz.prog 227 #[.slice (some ⟨g, o, none⟩) n C] w' fun e w'' => ∃ s, e = .returned (.tuple #[.agg (recV r s), .int .i64 (m : Int), .int .i64 0]) ∧ Hid (NewSpots w' w'' r s ∧ Fr [] w' w'')) := hidI (fun w' f => (get_any w' _ n C (lb.drop o) HDL.out HCC.out hn (b1.kept f (by simp))).mono (by
      rintro e w'' h
      rcases h with ⟨h1, _⟩ | ⟨r2, n2, s, h1, rfl, h2, h3⟩
      · rw [hd] at h1; cases h1
      · rw [hd] at h1; cases h1; exact ⟨s, rfl, hidI ⟨h2, h3⟩⟩))
    unfold recV at SG
    have HL1 := hidI L1
    refine wp_region_held_drew (S := fun w' => Fr [] w1 w') (by kernel_rfl) (Fr.refl _ _).drew (fun hHeld => ?_)
    refine wpAnyH_take (i := 0) (v := ?_) rfl (by kernel_rfl) (by kernel_rfl) (by kernel_rfl) (fun _ _ _ h => h) (Or.inl ⟨by kernel_rfl, ?_⟩) hHeld ?_
    rotate_left
    · intro w' hSw
      go_simp
      try with_reducible rfl
    try simp only [Act.put, List.getElem_toArray, List.getElem_cons_zero, List.setIfInBounds_toArray, List.set_cons_zero, List.set_cons_succ]
    refine wpAnyH_take (i := 1) (v := ?_) rfl (by kernel_rfl) (by kernel_rfl) (by kernel_rfl) (fun _ _ _ h => h) (Or.inl ⟨by kernel_rfl, ?_⟩) hHeld ?_
    rotate_left
    · intro w' hSw
      go_simp
      try with_reducible rfl
    try simp only [Act.put, List.getElem_toArray, List.getElem_cons_succ, List.getElem_cons_zero, List.setIfInBounds_toArray, List.set_cons_zero, List.set_cons_succ]
    refine wpAnyH_take (i := 2) (v := ?_) rfl (by kernel_rfl) (by kernel_rfl) (by kernel_rfl) (fun _ _ _ h => h) (Or.inl ⟨by kernel_rfl, ?_⟩) hHeld ?_
    rotate_left
    · intro w' hSw
      go_simp
      try with_reducible rfl
    try simp only [Act.put, List.getElem_toArray, List.getElem_cons_succ, List.getElem_cons_zero, List.setIfInBounds_toArray, List.set_cons_zero, List.set_cons_succ]
    refine wpAnyH_take (i := 3) (v := ?_) rfl (by kernel_rfl) (by kernel_rfl) (by kernel_rfl) (fun _ _ _ h => h) (Or.inl ⟨by kernel_rfl, ?_⟩) hHeld ?_
    rotate_left
    · intro w' hSw
      have k7 : w'.cell? ⟨p, 7, none⟩ = some (.slice (some ⟨g, 0, none⟩) N c) := (HL1.out.kept hSw (by simp)).c7
      go_simp
      try with_reducible rfl
    try simp only [Act.put, List.getElem_toArray, List.getElem_cons_succ, List.getElem_cons_zero, List.setIfInBounds_toArray, List.set_cons_zero, List.set_cons_succ]
    refine wpAnyH_take (i := 4) (v := ?_) rfl (by kernel_rfl) (by kernel_rfl) (by kernel_rfl) (fun _ _ _ h => h) (Or.inl ⟨by kernel_rfl, ?_⟩) hHeld ?_
    rotate_left
    · intro w' hSw
      go_simp
      try with_reducible rfl
    try simp only [Act.put, List.getElem_toArray, List.getElem_cons_succ, List.getElem_cons_zero, List.setIfInBounds_toArray, List.set_cons_zero, List.set_cons_succ]
    refine wpAnyH_take (i := 5) (v := ?_) rfl (by kernel_rfl) (by kernel_rfl) (by kernel_rfl) (fun _ _ _ h => h) (Or.inl ⟨by kernel_rfl, ?_⟩) hHeld ?_
    rotate_left
    · intro w' hSw
      go_simp
      try with_reducible rfl
    try simp only [Act.put, List.getElem_toArray, List.getElem_cons_succ, List.getElem_cons_zero, List.setIfInBounds_toArray, List.set_cons_zero, List.set_cons_succ]
    refine wpAnyH_take (i := 6) (v := ?_) rfl (by kernel_rfl) (by kernel_rfl) (by kernel_rfl) (fun _ _ _ h => h) (Or.inl ⟨by kernel_rfl, ?_⟩) hHeld ?_
    rotate_left
    · intro w' hSw
      go_simp
      try with_reducible rfl
    try simp only [Act.put, List.getElem_toArray, List.getElem_cons_succ, List.getElem_cons_zero, List.setIfInBounds_toArray, List.set_cons_zero, List.set_cons_succ]
    refine wpAnyH_take (i := 7) (v := ?_) rfl (by kernel_rfl) (by kernel_rfl) (by kernel_rfl) (fun _ _ _ h => h) (Or.inl ⟨by kernel_rfl, ?_⟩) hHeld ?_
    rotate_left
    · intro w' hSw
      go_simp
      try with_reducible rfl
    try simp only [Act.put, List.getElem_toArray, List.getElem_cons_succ, List.getElem_cons_zero, List.setIfInBounds_toArray, List.set_cons_zero, List.set_cons_succ]
    refine wpAnyH_take (i := 8) (v := ?_) rfl (by kernel_rfl) (by kernel_rfl) (by kernel_rfl) (fun _ _ _ h => h) (Or.inl ⟨by kernel_rfl, ?_⟩) hHeld ?_
    rotate_left
    · intro w' hSw
      have k8 : w'.cell? ⟨p, 8, none⟩ = some (.int .i64 k0) := (HL1.out.kept hSw (by simp)).c8
      go_simp
      try with_reducible rfl
    try simp only [Act.put, List.getElem_toArray, List.getElem_cons_succ, List.getElem_cons_zero, List.setIfInBounds_toArray, List.set_cons_zero, List.set_cons_succ]
    refine wpAnyH_take (i := 9) (v := ?_) rfl (by kernel_rfl) (by kernel_rfl) (by kernel_rfl) (fun _ _ _ h => h) (Or.inl ⟨by kernel_rfl, ?_⟩) hHeld ?_
    rotate_left
    · intro w' hSw
      go_simp
      try with_reducible rfl
    try simp only [Act.put, List.getElem_toArray, List.getElem_cons_succ, List.getElem_cons_zero, List.setIfInBounds_toArray, List.set_cons_zero, List.set_cons_succ]
    refine wpAnyH_take (i := 10) (v := ?_) rfl (by kernel_rfl) (by kernel_rfl) (by kernel_rfl) (fun _ _ _ h => h) (Or.inl ⟨by kernel_rfl, ?_⟩) hHeld ?_
    rotate_left
    · intro w' hSw
      go_simp
      try with_reducible rfl
    try simp only [Act.put, List.getElem_toArray, List.getElem_cons_succ, List.getElem_cons_zero, List.setIfInBounds_toArray, List.set_cons_zero, List.set_cons_succ]
    refine wpAnyH_ready (rs := [11, 16]) (by kernel_rfl) (by simp) ?_
    refine AllReadyH.cons rfl (fun K hK => ?_) (AllReadyH.cons rfl (fun K hK => ?_) AllReadyH.nil)
    · rw [if_pos (by kernel_rfl)]
      go_wp2_with (go_at_call 227; refine (SG.out _ hHeld).mono ?_; rintro e w7 ⟨s, rfl, HS⟩)
      refine hK.out _ _ (hHeld.trans HS.out.2) (fun hHeld => ?_)
      clear hK K
      try simp only [Act.put, List.getElem_toArray, List.getElem_cons_succ, List.getElem_cons_zero, List.setIfInBounds_toArray, List.set_cons_zero, List.set_cons_succ]
      refine wpAnyH_take (i := 12) (v := ?_) rfl (by kernel_rfl) (by kernel_rfl) (by kernel_rfl) (fun _ _ _ h => h) (Or.inl ⟨by kernel_rfl, ?_⟩) hHeld ?_
      rotate_left
      · intro w' hSw
        go_simp
        try with_reducible rfl
      try simp only [Act.put, List.getElem_toArray, List.getElem_cons_succ, List.getElem_cons_zero, List.setIfInBounds_toArray, List.set_cons_zero, List.set_cons_succ]
      refine wpAnyH_take (i := 13) (v := ?_) rfl (by kernel_rfl) (by kernel_rfl) (by kernel_rfl) (fun _ _ _ h => h) (Or.inl ⟨by kernel_rfl, ?_⟩) hHeld ?_
      rotate_left
      · intro w' hSw
        go_simp
        try with_reducible rfl
      try simp only [Act.put, List.getElem_toArray, List.getElem_cons_succ, List.getElem_cons_zero, List.setIfInBounds_toArray, List.set_cons_zero, List.set_cons_succ]
      refine wpAnyH_take (i := 14) (v := ?_) rfl (by kernel_rfl) (by kernel_rfl) (by kernel_rfl) (fun _ _ _ h => h) (Or.inl ⟨by kernel_rfl, ?_⟩) hHeld ?_
      rotate_left
      · intro w' hSw
        go_simp
        try with_reducible rfl
      try simp only [Act.put, List.getElem_toArray, List.getElem_cons_succ, List.getElem_cons_zero, List.setIfInBounds_toArray, List.set_cons_zero, List.set_cons_succ]
      refine wpAnyH_take (i := 15) (v := ?_) rfl (by kernel_rfl) (by kernel_rfl) (by kernel_rfl) (fun _ _ _ h => h) (Or.inl ⟨by kernel_rfl, ?_⟩) hHeld ?_
      rotate_left
      · intro w' hSw
        go_simp
        try with_reducible rfl
      try simp only [Act.put, List.getElem_toArray, List.getElem_cons_succ, List.getElem_cons_zero, List.setIfInBounds_toArray, List.set_cons_zero, List.set_cons_succ]
      refine wpAnyH_ready (rs := [16]) (by kernel_rfl) (by simp) ?_
      refine AllReadyH.cons rfl (fun K hK => ?_) AllReadyH.nil
      rw [if_pos (by kernel_rfl)]
      go_wp2_with fail
      refine hK.out _ _ (hHeld.alloc _) (fun hHeld => ?_)
      clear hK K
      try simp only [Act.put, List.getElem_toArray, List.getElem_cons_succ, List.getElem_cons_zero, List.setIfInBounds_toArray, List.set_cons_zero, List.set_cons_succ]
      have hz : RBox (w7.alloc (.cells #[.int .i64 0, .int .i64 0, .int .u8 0, .int .i64 0, .int .i64 0, .int .i64 0, .int .i64 0, .int .i64 0, .slice none 0 0, .slice none 0 0] 192)) w7.heap.size (zeroR 0 0) zeroS := heap_alloc_new w7 _
      have ns9 := HS.out.1
      have hs9 : w1.heap.size ≤ w7.heap.size := HS.out.2.size
      refine wpAnyH_ready (rs := [17]) (by kernel_rfl) (by simp) ?_
      refine AllReadyH.cons rfl (fun K hK => ?_) AllReadyH.nil
      rw [if_pos (by kernel_rfl)]
      refine wp_store_row 192 _ _ rfl w7.heap.size #[.int .i64 r.lsn, .int .i64 r.turn, .int .u8 (r.kind : Int), .int .i64 r.tx, .int .i64 r.prev, .int .i64 r.next, .int .i64 r.block, .int .i64 r.off, .slice s.a1 r.old.length s.c1, .slice s.a2 r.new.length s.c2] rfl rfl 192 _ hz sizeR rfl (by simp; exact ⟨rfl, rfl, rfl, rfl, rfl, rfl, rfl, rfl, rfl, rfl⟩) ?_
      refine hK.out _ _ (hHeld.then (M := [w7.heap.size]) ⟨rfl, rfl, rfl, by simp, fun i _ hn => setRow_other _ _ i _ (fun e => hn (by simp [e]))⟩ (fun i hi hm => by simp at hm; omega)) (fun hHeld => ?_)
      clear hK K
      have R9 := setRow_heap _ w7.heap.size _ #[.int .i64 r.lsn, .int .i64 r.turn, .int .u8 (r.kind : Int), .int .i64 r.tx, .int .i64 r.prev, .int .i64 r.next, .int .i64 r.block, .int .i64 r.off, .slice s.a1 r.old.length s.c1, .slice s.a2 r.new.length s.c2] _ _ hz
      try simp only [Act.put, List.getElem_toArray, List.getElem_cons_succ, List.getElem_cons_zero]
      refine wpAnyH_take (i := 18) (v := ?_) rfl (by kernel_rfl) (by kernel_rfl) (by kernel_rfl) (fun _ _ _ h => h) (Or.inl ⟨by kernel_rfl, ?_⟩) hHeld ?_
      rotate_left
      · intro w' hSw
        go_simp
        try with_reducible rfl
      try simp only [Act.put, List.getElem_toArray, List.getElem_cons_succ, List.getElem_cons_zero, List.setIfInBounds_toArray, List.set_cons_zero, List.set_cons_succ]
      refine wpAnyH_take (i := 19) (v := ?_) rfl (by kernel_rfl) (by kernel_rfl) (by kernel_rfl) (fun _ _ _ h => h) (Or.inl ⟨by kernel_rfl, ?_⟩) hHeld ?_
      rotate_left
      · intro w' hSw
        go_simp
        try with_reducible rfl
      try simp only [Act.put, List.getElem_toArray, List.getElem_cons_succ, List.getElem_cons_zero, List.setIfInBounds_toArray, List.set_cons_zero, List.set_cons_succ]
      refine wpAnyH_done (by kernel_rfl) ?_ _
      go_wp2
      go_meet
      exact ⟨_, s, rfl, R9, new_base ((ns9.kept (L := []) ((Fr.refl [] _).alloc _) (fun g' hg' => nomatch hg')).kept (L := [w7.heap.size]) ⟨rfl, rfl, rfl, by simp, fun i _ hn => setRow_other _ _ i _ (fun e => hn (by simp [e]))⟩ (fun g' hg' cur t h => by simp at hg'; subst hg'; rw [hz] at h; cases h; decide)) (by simp), hHeld⟩
    · rw [if_pos (by kernel_rfl)]
      go_wp2_with fail
      refine hK.out _ _ (hHeld.alloc _) (fun hHeld => ?_)
      clear hK K
      try simp only [Act.put, List.getElem_toArray, List.getElem_cons_succ, List.getElem_cons_zero, List.setIfInBounds_toArray, List.set_cons_zero, List.set_cons_succ]
      have hz0 : RBox (w1.drew.alloc (.cells #[.int .i64 0, .int .i64 0, .int .u8 0, .int .i64 0, .int .i64 0, .int .i64 0, .int .i64 0, .int .i64 0, .slice none 0 0, .slice none 0 0] 192)) w1.heap.size (zeroR 0 0) zeroS := heap_alloc_new w1.drew _
      refine wpAnyH_ready (rs := [11]) (by kernel_rfl) (by simp) ?_
      refine AllReadyH.cons rfl (fun K hK => ?_) AllReadyH.nil
      rw [if_pos (by kernel_rfl)]
      go_wp2_with (go_at_call 227; refine (SG.out _ hHeld).mono ?_; rintro e w7 ⟨s, rfl, HS⟩)
      refine hK.out _ _ (hHeld.trans HS.out.2) (fun hHeld => ?_)
      clear hK K
      have hz : RBox w7 w1.heap.size (zeroR 0 0) zeroS := hz0.kept HS.out.2 (by simp)
      have ns9 := HS.out.1
      have hs9 := HS.out.2.size
      try simp only [Act.put, List.getElem_toArray, List.getElem_cons_succ, List.getElem_cons_zero, List.setIfInBounds_toArray, List.set_cons_zero, List.set_cons_succ]
      refine wpAnyH_take (i := 12) (v := ?_) rfl (by kernel_rfl) (by kernel_rfl) (by kernel_rfl) (fun _ _ _ h => h) (Or.inl ⟨by kernel_rfl, ?_⟩) hHeld ?_
      rotate_left
      · intro w' hSw
        go_simp
        try with_reducible rfl
      try simp only [Act.put, List.getElem_toArray, List.getElem_cons_succ, List.getElem_cons_zero, List.setIfInBounds_toArray, List.set_cons_zero, List.set_cons_succ]
      refine wpAnyH_take (i := 13) (v := ?_) rfl (by kernel_rfl) (by kernel_rfl) (by kernel_rfl) (fun _ _ _ h => h) (Or.inl ⟨by kernel_rfl, ?_⟩) hHeld ?_
      rotate_left
      · intro w' hSw
        go_simp
        try with_reducible rfl
      try simp only [Act.put, List.getElem_toArray, List.getElem_cons_succ, List.getElem_cons_zero, List.setIfInBounds_toArray, List.set_cons_zero, List.set_cons_succ]
      refine wpAnyH_take (i := 14) (v := ?_) rfl (by kernel_rfl) (by kernel_rfl) (by kernel_rfl) (fun _ _ _ h => h) (Or.inl ⟨by kernel_rfl, ?_⟩) hHeld ?_
      rotate_left
      · intro w' hSw
        go_simp
        try with_reducible rfl
      try simp only [Act.put, List.getElem_toArray, List.getElem_cons_succ, List.getElem_cons_zero, List.setIfInBounds_toArray, List.set_cons_zero, List.set_cons_succ]
      refine wpAnyH_take (i := 15) (v := ?_) rfl (by kernel_rfl) (by kernel_rfl) (by kernel_rfl) (fun _ _ _ h => h) (Or.inl ⟨by kernel_rfl, ?_⟩) hHeld ?_
      rotate_left
      · intro w' hSw
        go_simp
        try with_reducible rfl
      try simp only [Act.put, List.getElem_toArray, List.getElem_cons_succ, List.getElem_cons_zero, List.setIfInBounds_toArray, List.set_cons_zero, List.set_cons_succ]
      refine wpAnyH_ready (rs := [17]) (by kernel_rfl) (by simp) ?_
      refine AllReadyH.cons rfl (fun K hK => ?_) AllReadyH.nil
      rw [if_pos (by kernel_rfl)]
      refine wp_store_row 192 _ _ rfl w1.heap.size #[.int .i64 r.lsn, .int .i64 r.turn, .int .u8 (r.kind : Int), .int .i64 r.tx, .int .i64 r.prev, .int .i64 r.next, .int .i64 r.block, .int .i64 r.off, .slice s.a1 r.old.length s.c1, .slice s.a2 r.new.length s.c2] rfl rfl 192 _ hz sizeR rfl (by simp; exact ⟨rfl, rfl, rfl, rfl, rfl, rfl, rfl, rfl, rfl, rfl⟩) ?_
      refine hK.out _ _ (hHeld.then (M := [w1.heap.size]) ⟨rfl, rfl, rfl, by simp, fun i _ hn => setRow_other _ _ i _ (fun e => hn (by simp [e]))⟩ (fun i hi hm => by simp at hm; omega)) (fun hHeld => ?_)
      clear hK K
      have R9 := setRow_heap _ w1.heap.size _ #[.int .i64 r.lsn, .int .i64 r.turn, .int .u8 (r.kind : Int), .int .i64 r.tx, .int .i64 r.prev, .int .i64 r.next, .int .i64 r.block, .int .i64 r.off, .slice s.a1 r.old.length s.c1, .slice s.a2 r.new.length s.c2] _ _ hz
      try simp only [Act.put, List.getElem_toArray, List.getElem_cons_succ, List.getElem_cons_zero]
      refine wpAnyH_take (i := 18) (v := ?_) rfl (by kernel_rfl) (by kernel_rfl) (by kernel_rfl) (fun _ _ _ h => h) (Or.inl ⟨by kernel_rfl, ?_⟩) hHeld ?_
      rotate_left
      · intro w' hSw
        go_simp
        try with_reducible rfl
      try simp only [Act.put, List.getElem_toArray, List.getElem_cons_succ, List.getElem_cons_zero, List.setIfInBounds_toArray, List.set_cons_zero, List.set_cons_succ]
      refine wpAnyH_take (i := 19) (v := ?_) rfl (by kernel_rfl) (by kernel_rfl) (by kernel_rfl) (fun _ _ _ h => h) (Or.inl ⟨by kernel_rfl, ?_⟩) hHeld ?_
      rotate_left
      · intro w' hSw
        go_simp
        try with_reducible rfl
      try simp only [Act.put, List.getElem_toArray, List.getElem_cons_succ, List.getElem_cons_zero, List.setIfInBounds_toArray, List.set_cons_zero, List.set_cons_succ]
      refine wpAnyH_done (by kernel_rfl) ?_ _
      go_wp2
      go_meet
      exact ⟨_, s, rfl, R9, new_base (ns9.kept (L := [w1.heap.size]) ⟨rfl, rfl, rfl, by simp, fun i _ hn => setRow_other _ _ i _ (fun e => hn (by simp [e]))⟩ (fun g' hg' cur t h => by simp at hg'; subst hg'; rw [hz] at h; cases h; decide)) (by simp), hHeld⟩
  obtain ⟨Z, s, rfl, R2, ns, f2⟩ := hcut
  have r1 := rR.kept f2 (by simp)
  have x0 := R2.c0
  have x1 := R2.c1
  have x2 := R2.c2
  have x3 := R2.c3
  have x4 := R2.c4
  have x5 := R2.c5
  have x6 := R2.c6
  have x7 := R2.c7
  have x8 := R2.c8
  have x9 := R2.c9
  go_wp2_with (refine wp_storeR rfl _ _ rfl w.heap.size _ r _ s rfl rfl r1 ?_; intro w3 r3 f3)
  refine bodyPost_ret (resR1 rfl _ _ w.heap.size r s rfl r3) rfl ⟨s, rfl, ?_, (f1.trans f2).then f3 (fun i hi hm => by simp at hm; omega)⟩
  exact (new_base ns f1.size).kept f3 (fun g' hg' cur t h => by simp at hg'; subst hg'; rw [r1] at h; cases h; decide)

end Go.Proofs.YtopaeomjndblkaaGreat

namespace Go.Proofs.YtopaeomjndblkaaGreat
open Go.RowKit Go.Maps

set_option maxHeartbeats 400000 in
set_option maxRecDepth 100000 in
theorem read_one (w : World) (p d : Nat) (first count turn oldest safe fin k : Int) (gl cl g n c : Nat) (l : List UInt8) (r : Rec) (hx : LBox w p ⟨.pointer (some ⟨d, 0, none⟩), first, count, turn, oldest, safe, fin, .slice (some ⟨g, 0, none⟩) n c, k, .slice (some ⟨gl, 0, none⟩) 1 cl⟩) (hls : LsAt w (some ⟨gl, 0, none⟩) 1 cl [k]) (hb : BytesAt w (some ⟨g, 0, none⟩) l) (hl : l.length = n) (hn0 : 1 ≤ n) (hn : n ≤ 100000) (hc : n ≤ c) (hd : decR l = some (r, n)) :
    Calls Tryz.prog 201 #[.pointer (some ⟨p, 0, none⟩), .int .i64 k] w fun e w' => ∃ s, e = .returned (.tuple #[.agg (recV r s), .int .i64 0]) ∧ Fr [] w w' := by
  have rR : RBox (w.alloc (.cells #[.int .i64 0, .int .i64 0, .int .u8 0, .int .i64 0, .int .i64 0, .int .i64 0, .int .i64 0, .int .i64 0, .slice none 0 0, .slice none 0 0] 192)) w.heap.size (zeroR 0 0) zeroS := heap_alloc_new w _
  have f1 := (Fr.refl [] w).alloc (.cells #[.int .i64 0, .int .i64 0, .int .u8 0, .int .i64 0, .int .i64 0, .int .i64 0, .int .i64 0, .int .i64 0, .slice none 0 0, .slice none 0 0] 192)
  go_enter Tryz.func201, Tryz.ntmps201
  go_wp2_with fail
  generalize w.alloc (.cells #[.int .i64 0, .int .i64 0, .int .u8 0, .int .i64 0, .int .i64 0, .int .i64 0, .int .i64 0, .int .i64 0, .slice none 0 0, .slice none 0 0] 192) = w1 at rR f1 ⊢
  have L1 := hx.kept f1 (by simp)
  have b1 := hb.kept f1 (by simp)
  have ls1 := own0_kept (L := []) hls f1 (fun g' hg' => nomatch hg')
  have k0 : w1.cell? ⟨p, 0, none⟩ = some (.pointer (some ⟨d, 0, none⟩)) := L1.c0
  have k9 : w1.cell? ⟨p, 9, none⟩ = some (.slice (some ⟨gl, 0, none⟩) 1 cl) := L1.c9
  obtain ⟨gl', e1, -, hcell⟩ := LsAt.at ls1 (by omega) rfl
  cases e1
  have kl := hcell 0 k rfl
  refine (lmade_yes _ p d k0).mono ?_
  rintro e w1 ⟨rfl, rfl⟩
  go_wp2_with fail
  refine (bin_one _ gl cl k kl).mono ?_
  rintro e w1 ⟨rfl, rfl⟩
  go_wp2_with fail
  refine (record_one w1 p _ first count turn oldest safe fin k _ g n c l r L1 b1 hl hn0 hn hc hd).mono ?_
  rintro e w2 ⟨s, rfl, ns, f2⟩
  have r2 := rR.kept f2 (by simp)
  go_wp2_with (refine wp_storeR rfl _ _ rfl w.heap.size _ r _ s rfl rfl r2 ?_; intro w3 r3 f3)
  refine bodyPost_ret (resR2 rfl _ _ w.heap.size r s rfl r3) rfl ⟨s, rfl, (f1.trans f2).then f3 (fun i hi hm => by simp at hm; omega)⟩

theorem infoR : (Tryz.prog.info? 192).map (fun i => (i.zero, i.size, i.bytes)) = some (some (.agg (recV (zeroR 0 0) zeroS)), 10, 112) := by kernel_rfl
theorem infoR' : ∃ i, Tryz.prog.info? 192 = some i ∧ i.zero = some (.agg (recV (zeroR 0 0) zeroS)) ∧ i.size = 10 ∧ i.bytes = 112 := by
  have h := infoR
  cases hi : Tryz.prog.info? 192 with
  | none => rw [hi] at h; cases h
  | some i =>
    rw [hi] at h
    simp at h
    exact ⟨i, rfl, h.1, h.2.1, h.2.2⟩

section
variable {ops : Array Oper} {rest : List Oper} {o : Oper} {a : Act} {w : World} {Q : Exit → Act → World → Prop}
/-- append of one record to no row. -/
theorem wp_appR0 (hgd : o.guard = none) (s x : Operand) (ho : o.op = .call { callee := .builtin .append, args := #[s, x], argTypes := #[253, 253] }) (b : Nat) (r : Rec) (sp : Spots) (hs : a.eval s = .slice none 0 0) (hx : a.eval x = .slice (some ⟨b, 0, none⟩) 1 1)
    (hb : RBox w b r sp)
    (h : ∀ g c' w', Fr [] w w' → wpList Tryz.prog ops Q rest (a.put o.dst (.slice (some ⟨g, 0, none⟩) 1 c')) w') : wpList Tryz.prog ops Q (o :: rest) a w :=
  wpList_plain hgd fun K hK => by
    obtain ⟨i, hi, hz, hsz, hbb⟩ := infoR'
    obtain ⟨v', w', hrun, h2, h3, h4, _⟩ := run_append_own_at (P := Tryz.prog) w 0 253 o.type 192 i (.agg (recV (zeroR 0 0) zeroS)) 10 112 Tryz.underlying253 hi hz hsz hbb rfl (by omega) (.slice none 0 0) 0 [] ⟨by simp, Or.inl ⟨rfl, rfl⟩⟩ ⟨b, 0, none⟩ 1 1 (recV r sp).toList (by simp [recV])
      (by
        intro j x hx
        rw [Addr.add_mid, Nat.zero_add, cell_of_row w b j _ _ _ hb]
        simpa using hx) (by simp [recV]; exact ⟨rfl, rfl, rfl, rfl, rfl, rfl, rfl, rfl, rfl, rfl⟩) (by unfold maxLen; omega) (by omega) (Nat.zero_le _)
    rcases h2.2 with ⟨e, hn0⟩ | ⟨g, c', cur, e, rr⟩
    · omega
    · subst e
      unfold Oper.wp execOp
      simp [ho, resolve, invoke, builtin, hs, hx, hrun, Result.andThen]
      exact hK _ _ (h _ _ _ ((Fr.refl _ _).grown h3 (fun j e _ => by cases e)))
end

set_option maxHeartbeats 400000 in
set_option maxRecDepth 100000 in
theorem from_one (w : World) (p d : Nat) (first count turn oldest safe fin k : Int) (gl cl g n c : Nat) (l : List UInt8) (r : Rec) (hx : LBox w p ⟨.pointer (some ⟨d, 0, none⟩), first, count, turn, oldest, safe, fin, .slice (some ⟨g, 0, none⟩) n c, k, .slice (some ⟨gl, 0, none⟩) 1 cl⟩) (hls : LsAt w (some ⟨gl, 0, none⟩) 1 cl [k]) (hb : BytesAt w (some ⟨g, 0, none⟩) l) (hl : l.length = n) (hn0 : 1 ≤ n) (hn : n ≤ 100000) (hc : n ≤ c) (hd : decR l = some (r, n)) :
    Calls Tryz.prog 211 #[.pointer (some ⟨p, 0, none⟩), .int .i64 k] w fun e w' => ∃ ad cc, e = .returned (.slice ad 1 cc) ∧ Fr [] w w' := by
  have k0 : w.cell? ⟨p, 0, none⟩ = some (.pointer (some ⟨d, 0, none⟩)) := hx.c0
  have k9 : w.cell? ⟨p, 9, none⟩ = some (.slice (some ⟨gl, 0, none⟩) 1 cl) := hx.c9
  obtain ⟨gl', e1, hcl, hcell⟩ := LsAt.at hls (by omega) rfl
  cases e1
  have kl := hcell 0 k rfl
  have hcl' : (1 : Int) ≤ cl := by omega
  have hcl0 : ¬ cl = 0 := by omega
  go_enter Tryz.func211, Tryz.ntmps211
  go_wp2_with fail
  refine (lmade_yes _ p d k0).mono ?_
  rintro e w ⟨rfl, rfl⟩
  go_wp2_with fail
  refine (bin_one _ gl cl k kl).mono ?_
  rintro e w ⟨rfl, rfl⟩
  go_wp2_with fail
  go_loopw [7, 31] (fun v i wr => (v = .slice none 0 0 ∧ i = .int .i64 0 ∧ wr = w) ∨ ((∃ ad cc, v = .slice ad 1 cc) ∧ i = .int .i64 1 ∧ Fr [] w wr)) (fun _ i _ => 1 - (intOf i).toNat)
  case atStart => exact Or.inl ⟨rfl, rfl, rfl⟩
  case round =>
    rcases hrel with ⟨rfl, rfl, hwr⟩ | ⟨⟨ad, cc, rfl⟩, rfl, f1⟩
    · subst hwr
      go_wp2_with fail
      refine (record_one wr p _ first count turn oldest safe fin k _ g n c l r hx hb hl hn0 hn hc hd).mono ?_
      rintro e w2 ⟨s, rfl, ns, f2⟩
      have RB : RBox (w2.alloc (.cells (recV r s) 192)) w2.heap.size r s := heap_alloc_new w2 _
      unfold RBox recV at RB
      unfold recV
      go_wp2_with (refine wp_appR0 rfl _ _ rfl w2.heap.size r s rfl rfl RB ?_; intro g5 c5 w5 f5)
      exact ⟨Or.inr ⟨⟨_, _, rfl⟩, rfl, (f2.alloc _).trans f5⟩, by simp [intOf]⟩
    · go_wp2_with fail
      go_ret
      exact ⟨ad, cc, rfl, f1⟩

end Go.Proofs.YtopaeomjndblkaaGreat

