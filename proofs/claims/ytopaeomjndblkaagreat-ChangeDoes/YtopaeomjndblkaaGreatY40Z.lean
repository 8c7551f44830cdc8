/-
  One change undone, as a whole: the book's undoNext; all of them: undo.
-/
import Derived.Test.YtopaeomjndblkaaGreatY39Z
namespace Go.Proofs.YtopaeomjndblkaaGreat
open Go.RowKit Go.Maps

section
variable {ops : Array Oper} {o : Oper} {a : Act} {w : World} {Q : Exit → Act → World → Prop}
end
/-- What is behind a change that was undone. -/
structure Und1 (w w' : World) (b : Bk) (H : List Ch) (V : Pages) (c : Ch) (b' : Bk) : Prop where
  st : BStep w w' b b'
  tr : Tr b b'
  tx : UnTx b' H (undo1 c V)
  E : b'.x.y.E = b.x.y.E + (51 + c.new.length)
  num : b'.t.num = b.t.num
def flU (B kb Z tb : Nat) : List (FuncId × List Value) := [(237, [.pointer (some ⟨B, 0, none⟩), .pointer (some ⟨kb, 0, none⟩), .pointer (some ⟨Z, 0, none⟩)]), (239, [.pointer (some ⟨B, 0, none⟩), .pointer (some ⟨kb, 0, none⟩), .pointer (some ⟨tb, 0, none⟩)]), (240, [.pointer (some ⟨Z, 0, none⟩), .pointer (some ⟨tb, 0, none⟩)])]
theorem enU (w : World) (B kb Z tb : Nat) : ∀ (i : Nat) (p : FuncId × List Value), (flU B kb Z tb)[i]? = some p → (callFunc p.1 p.2.toArray).run Tryz.prog w = .ok (.enter p.1 p.2.toArray) w
  | 0, p, h => by cases h; go_simp
  | 1, p, h => by cases h; go_simp
  | 2, p, h => by cases h; go_simp
  | n + 3, p, h => by simp [flU] at h
def UnI (w : World) (b : Bk) (c : Ch) (H : List Ch) : Nat → World → Prop
  | 0, wr => BStep w wr b b
  | 1, wr => ∃ y', Appd b.x.y y' (51 + c.new.length) (txRec b.t (undRec c.pg c.off (nextOf H) c.old)) ∧ BStep w wr b { b with x := { b.x with y := y' }, t := { b.t with last := (b.x.y.E : Int) + 1, und := (b.x.y.E : Int) + 1, st := 3 } }
  | 2, wr => ∃ y' x'', Appd b.x.y y' (51 + c.new.length) (txRec b.t (undRec c.pg c.off (nextOf H) c.old)) ∧ Chg { b.x with y := y' } x'' c.pg c.off c.old ((b.x.y.E : Int) + 1) ∧ (∃ wm, PoAt wm { b.x with y := y' }) ∧ BStep w wr b { b with x := x'', t := { b.t with last := (b.x.y.E : Int) + 1, und := (b.x.y.E : Int) + 1, st := 3 } }
  | _, wr => ∃ y' x'', Appd b.x.y y' (51 + c.new.length) (txRec b.t (undRec c.pg c.off (nextOf H) c.old)) ∧ Chg { b.x with y := y' } x'' c.pg c.off c.old ((b.x.y.E : Int) + 1) ∧ (∃ wm, PoAt wm { b.x with y := y' }) ∧ BStep w wr b { b with x := x'', t := { b.t with last := (b.x.y.E : Int) + 1, und := 0, st := 3, next := nextOf H } }
theorem UnI.st {w : World} {b : Bk} {c : Ch} {H : List Ch} {i : Nat} {wr : World} (h : UnI w b c H i wr) : ∃ b', BStep w wr b b' := by
  match i, h with
  | 0, h => exact ⟨_, h⟩
  | 1, ⟨_, _, h⟩ => exact ⟨_, h⟩
  | 2, ⟨_, _, _, _, _, h⟩ => exact ⟨_, h⟩
  | n + 3, ⟨_, _, _, _, _, h⟩ => exact ⟨_, h⟩
theorem un_end {w wr : World} {b : Bk} (h : BkAt w b) {c : Ch} {H : List Ch} {V : Pages} (tx : UnTx b (c :: H) V) {y' : Lo} {x'' : Po} (ap : Appd b.x.y y' (51 + c.new.length) (txRec b.t (undRec c.pg c.off (nextOf H) c.old))) (hc : Chg { b.x with y := y' } x'' c.pg c.off c.old ((b.x.y.E : Int) + 1)) {wm : World} (hm : PoAt wm { b.x with y := y' }) (st : BStep w wr b { b with x := x'', t := { b.t with last := (b.x.y.E : Int) + 1, und := 0, st := 3, next := nextOf H } }) : Und1 w wr b H V c { b with x := x'', t := { b.t with last := (b.x.y.E : Int) + 1, und := 0, st := 3, next := nextOf H } } := by
  have kk := hc.kin
  have hp := hc.pages hm.nod
  have kE : x''.y.E = b.x.y.E + (51 + c.new.length) := by rw [kk.E]; exact ap.E
  have kA : x''.y.A = b.x.y.A := by rw [kk.A]; exact ap.A
  have kC : x''.y.count = b.x.y.count := by rw [kk.count]; exact ap.count
  have kT : x''.y.T = b.x.y.T := by rw [kk.T]; exact ap.T
  have ke : keptOf (c :: H) = 51 + (c.new.length : Int) + keptOf H := rfl
  have h1 := tx.room
  have h2 := tx.E
  have h3 := tx.big
  have h4 := keptOf_nonneg H
  rw [ke] at h1 h2 h3
  unfold Bk.room at h1
  have tr1 : Tr b { b with x := { b.x with y := y' } } := Tr.appd (t' := b.t) ap
  refine ⟨st, tr1.trans (Tr.pool (b := { b with x := { b.x with y := y' } }) (t' := { b.t with last := (b.x.y.E : Int) + 1, und := 0, st := 3, next := nextOf H }) kk hp.1 hp.2.1 hp.2.2.1), ⟨tx.num, rfl, rfl, ?_, (tx.chain.2.2.appd h.po.lo ap).kin kk, ?_, ?_, ?_, ?_, ?_, ?_, ?_, ?_⟩, kE, rfl⟩
  · show 0 ≤ (b.x.y.E : Int) + 1 ∧ (b.x.y.E : Int) + 1 ≤ (x''.y.E : Int)
    rw [kE]
    omega
  · intro q hq
    show q.pg < x''.pages
    rw [hp.1]
    exact tx.pgs q (List.mem_cons_of_mem _ hq)
  · exact (tx.sh.appd ap).chg hm st.at'.po hc
  · show 1 ≤ x''.y.T
    rw [kT]
    exact tx.t0
  · show x''.y.T ≤ _
    rw [kT]
    exact tx.t1
  · unfold Bk.room
    show keptOf H + 35 ≤ 408 * (x''.y.count - 1) - ((x''.y.E : Int) - (x''.y.A : Int))
    rw [kE, kA, kC]
    omega
  · show (x''.y.E : Int) + keptOf H + 35 ≤ 400000
    rw [kE]
    omega
  · show (x''.y.E : Int) + keptOf H + 35 ≤ (x''.y.A : Int) + 100000
    rw [kE, kA]
    omega
  · show x''.pages ≤ 65536
    rw [hp.1]
    exact tx.pgn
set_option maxHeartbeats 2000000 in
set_option maxRecDepth 100000 in
theorem undoNext_any {w : World} {b : Bk} (h : BkAt w b) {c : Ch} {H : List Ch} {V : Pages} (tx : UnTx b (c :: H) V) :
    Calls Tryz.prog 202 #[.pointer (some ⟨b.bp, 0, none⟩)] w fun e w' => e = .returned (.int .i64 0) ∧ ∃ b', Und1 w w' b H V c b' := by
  have HH := hidI h
  have HT := hidI tx
  have hlt := hidI h.lt
  have fa : Fr [] w (w.alloc (.cells #[.pointer (some ⟨b.bp, 0, none⟩)] 60)) := (Fr.refl [] w).alloc _
  have hB := heap_alloc_new w (.cells #[.pointer (some ⟨b.bp, 0, none⟩)] 60)
  have hs1 : (w.alloc (.cells #[.pointer (some ⟨b.bp, 0, none⟩)] 60)).heap.size = w.heap.size + 1 := by simp
  obtain ⟨w1, hw1⟩ : ∃ w1, w.alloc (.cells #[.pointer (some ⟨b.bp, 0, none⟩)] 60) = w1 := ⟨_, rfl⟩
  rw [hw1] at fa hB hs1
  have fb : Fr [] w1 (w1.alloc (.cells #[.pointer (some ⟨b.dp, 0, none⟩)] 73)) := (Fr.refl [] w1).alloc _
  have htb := heap_alloc_new w1 (.cells #[.pointer (some ⟨b.dp, 0, none⟩)] 73)
  have hs2 : (w1.alloc (.cells #[.pointer (some ⟨b.dp, 0, none⟩)] 73)).heap.size = w1.heap.size + 1 := by simp
  obtain ⟨w2, hw2⟩ : ∃ w2, w1.alloc (.cells #[.pointer (some ⟨b.dp, 0, none⟩)] 73) = w2 := ⟨_, rfl⟩
  rw [hw2] at fb htb hs2
  rw [hs1] at htb hs2
  have c0 := cell_of_row w1 w.heap.size 0 _ _ _ hB
  have c3 : w1.cell? ⟨b.bp, 3, none⟩ = some (.pointer (some ⟨b.dp, 0, none⟩)) := (h.quiet fa).box.c3
  have B2 := hidI (h.quiet (fa.trans fb))
  have hB2 := fb.same (by simp) hB
  have e0 := cell_of_row w2 w.heap.size 0 _ _ _ hB2
  have e1 : w2.cell? ⟨b.bp, 1, none⟩ = some (.pointer (some ⟨b.x.y.p, 0, none⟩)) := B2.out.box.c1
  have t0 := cell_of_row w2 (w.heap.size + 1) 0 _ _ _ htb
  have d4 : w2.cell? ⟨b.dp, 4, none⟩ = some (.int .i64 ((c.a : Int) + 1)) := by
    have h1 := B2.out.dl.c4
    rw [HT.out.next] at h1
    exact h1
  have hbig : (b.x.y.E : Int) ≤ (b.x.y.A : Int) + 100000 := by
    have h1 := tx.big
    have h2 := keptOf_nonneg (c :: H)
    omega
  have RD := hidI (fun w' (f : Fr [] w2 w') => readCh_any (B2.out.quiet f) tx.chain hbig)
  clear h tx
  go_enter Tryz.func202, Tryz.ntmps202
  go_wp2_with fail
  go_cut [4, 5] from 11 (fun s4 s5 wx => ∃ Z s, s4 = .pointer (some ⟨Z, 0, none⟩) ∧ s5 = .int .i64 0 ∧ RBox wx Z (recOf b.t.num (b.x.y.T : Int) (nextOf H) c) s ∧ NewSpots w2 wx (recOf b.t.num (b.x.y.T : Int) (nextOf H) c) s ∧ w2.heap.size ≤ Z ∧ Fr [] w2 wx)
  case first => as_aux_lemma =>
    have RD2 : Hid (∀ w', Fr [] w2 w' → Calls Tryz.prog 201 #[.pointer (some ⟨b.x.y.p, 0, none⟩), .int .i64 ((c.a : Int) + 1)] w' fun e w'' => ∃ s : Spots, e = .returned (.tuple #[.agg #[.int .i64 ((c.a : Int) + 1), .int .i64 (b.x.y.T : Int), .int .u8 1, .int .i64 b.t.num, .int .i64 (nextOf H), .int .i64 0, .int .i64 (c.pg : Int), .int .i64 (c.off : Int), .slice s.a1 c.old.length s.c1, .slice s.a2 c.new.length s.c2], .int .i64 0]) ∧ Hid (NewSpots w' w'' (recOf b.t.num (b.x.y.T : Int) (nextOf H) c) s ∧ Fr [] w' w'')) := hidI (fun w' f => (RD.out w' f).mono (by
      rintro e w'' ⟨s, h1, h2, h3⟩
      exact ⟨s, h1, hidI ⟨h2, h3⟩⟩))
    clear c0 c3 e0 e1 t0 d4
    refine wp_region_held_drew (S := fun w' => Fr [] w2 w') (by kernel_rfl) (Fr.refl _ _).drew (fun hHeld => ?_)
    refine wpAnyH_take (i := 0) (v := ?_) rfl (by kernel_rfl) (by kernel_rfl) (by kernel_rfl) (fun _ _ _ h => h) (Or.inl ⟨by kernel_rfl, ?_⟩) hHeld ?_
    rotate_left
    · intro w' hSw
      have k0 : w'.cell? ⟨w.heap.size, 0, none⟩ = some (.pointer (some ⟨b.bp, 0, none⟩)) := cell_of_row w' _ 0 _ _ _ (hSw.same (by simp) hB2)
      go_simp
      try with_reducible rfl
    try simp only [Act.put, List.getElem_toArray, List.getElem_cons_zero, List.setIfInBounds_toArray, List.set_cons_zero, List.set_cons_succ]
    refine wpAnyH_take (i := 1) (v := ?_) rfl (by kernel_rfl) (by kernel_rfl) (by kernel_rfl) (fun _ _ _ h => h) (Or.inl ⟨by kernel_rfl, ?_⟩) hHeld ?_
    rotate_left
    · intro w' hSw
      go_simp
      try with_reducible rfl
    try simp only [Act.put, List.getElem_toArray, List.getElem_cons_succ, List.getElem_cons_zero, List.setIfInBounds_toArray, List.set_cons_zero, List.set_cons_succ]
    refine wpAnyH_take (i := 2) (v := ?_) rfl (by kernel_rfl) (by kernel_rfl) (by kernel_rfl) (fun _ _ _ h => h) (Or.inl ⟨by kernel_rfl, ?_⟩) hHeld ?_
    rotate_left
    · intro w' hSw
      go_simp
      try with_reducible rfl
    try simp only [Act.put, List.getElem_toArray, List.getElem_cons_succ, List.getElem_cons_zero, List.setIfInBounds_toArray, List.set_cons_zero, List.set_cons_succ]
    refine wpAnyH_take (i := 3) (v := ?_) rfl (by kernel_rfl) (by kernel_rfl) (by kernel_rfl) (fun _ _ _ h => h) (Or.inl ⟨by kernel_rfl, ?_⟩) hHeld ?_
    rotate_left
    · intro w' hSw
      have k1 : w'.cell? ⟨b.bp, 1, none⟩ = some (.pointer (some ⟨b.x.y.p, 0, none⟩)) := (B2.out.quiet hSw).box.c1
      go_simp
      try with_reducible rfl
    try simp only [Act.put, List.getElem_toArray, List.getElem_cons_succ, List.getElem_cons_zero, List.setIfInBounds_toArray, List.set_cons_zero, List.set_cons_succ]
    refine wpAnyH_take (i := 4) (v := ?_) rfl (by kernel_rfl) (by kernel_rfl) (by kernel_rfl) (fun _ _ _ h => h) (Or.inl ⟨by kernel_rfl, ?_⟩) hHeld ?_
    rotate_left
    · intro w' hSw
      have k2 : w'.cell? ⟨w.heap.size + 1, 0, none⟩ = some (.pointer (some ⟨b.dp, 0, none⟩)) := cell_of_row w' _ 0 _ _ _ (hSw.same (by simp) htb)
      go_simp
      try with_reducible rfl
    try simp only [Act.put, List.getElem_toArray, List.getElem_cons_succ, List.getElem_cons_zero, List.setIfInBounds_toArray, List.set_cons_zero, List.set_cons_succ]
    refine wpAnyH_take (i := 5) (v := ?_) rfl (by kernel_rfl) (by kernel_rfl) (by kernel_rfl) (fun _ _ _ h => h) (Or.inl ⟨by kernel_rfl, ?_⟩) hHeld ?_
    rotate_left
    · intro w' hSw
      go_simp
      try with_reducible rfl
    try simp only [Act.put, List.getElem_toArray, List.getElem_cons_succ, List.getElem_cons_zero, List.setIfInBounds_toArray, List.set_cons_zero, List.set_cons_succ]
    refine wpAnyH_take (i := 6) (v := ?_) rfl (by kernel_rfl) (by kernel_rfl) (by kernel_rfl) (fun _ _ _ h => h) (Or.inl ⟨by kernel_rfl, ?_⟩) hHeld ?_
    rotate_left
    · intro w' hSw
      go_simp
      try with_reducible rfl
    try simp only [Act.put, List.getElem_toArray, List.getElem_cons_succ, List.getElem_cons_zero, List.setIfInBounds_toArray, List.set_cons_zero, List.set_cons_succ]
    refine wpAnyH_take (i := 7) (v := ?_) rfl (by kernel_rfl) (by kernel_rfl) (by kernel_rfl) (fun _ _ _ h => h) (Or.inl ⟨by kernel_rfl, ?_⟩) hHeld ?_
    rotate_left
    · intro w' hSw
      have k3 : w'.cell? ⟨b.dp, 4, none⟩ = some (.int .i64 ((c.a : Int) + 1)) := by
        have h1 := (B2.out.quiet hSw).dl.c4
        rw [HT.out.next] at h1
        exact h1
      go_simp
      try with_reducible rfl
    try simp only [Act.put, List.getElem_toArray, List.getElem_cons_succ, List.getElem_cons_zero, List.setIfInBounds_toArray, List.set_cons_zero, List.set_cons_succ]
    refine wpAnyH_ready (rs := [8, 12]) (by kernel_rfl) (by simp) ?_
    refine AllReadyH.cons rfl (fun K hK => ?_) (AllReadyH.cons rfl (fun K hK => ?_) AllReadyH.nil)
    · rw [if_pos (by kernel_rfl)]
      go_wp2_with (go_at_call 201; refine (RD2.out _ hHeld).mono ?_; rintro e w7 ⟨s, rfl, HS⟩)
      refine hK.out _ _ (hHeld.trans HS.out.2) (fun hHeld => ?_)
      clear hK K
      try simp only [Act.put, List.getElem_toArray, List.getElem_cons_succ, List.getElem_cons_zero, List.setIfInBounds_toArray, List.set_cons_zero, List.set_cons_succ]
      refine wpAnyH_take (i := 9) (v := ?_) rfl (by kernel_rfl) (by kernel_rfl) (by kernel_rfl) (fun _ _ _ h => h) (Or.inl ⟨by kernel_rfl, ?_⟩) hHeld ?_
      rotate_left
      · intro w' hSw
        go_simp
        try with_reducible rfl
      try simp only [Act.put, List.getElem_toArray, List.getElem_cons_succ, List.getElem_cons_zero, List.setIfInBounds_toArray, List.set_cons_zero, List.set_cons_succ]
      refine wpAnyH_take (i := 10) (v := ?_) rfl (by kernel_rfl) (by kernel_rfl) (by kernel_rfl) (fun _ _ _ h => h) (Or.inl ⟨by kernel_rfl, ?_⟩) hHeld ?_
      rotate_left
      · intro w' hSw
        go_simp
        try with_reducible rfl
      try simp only [Act.put, List.getElem_toArray, List.getElem_cons_succ, List.getElem_cons_zero, List.setIfInBounds_toArray, List.set_cons_zero, List.set_cons_succ]
      refine wpAnyH_take (i := 11) (v := ?_) rfl (by kernel_rfl) (by kernel_rfl) (by kernel_rfl) (fun _ _ _ h => h) (Or.inl ⟨by kernel_rfl, ?_⟩) hHeld ?_
      rotate_left
      · intro w' hSw
        go_simp
        try with_reducible rfl
      try simp only [Act.put, List.getElem_toArray, List.getElem_cons_succ, List.getElem_cons_zero, List.setIfInBounds_toArray, List.set_cons_zero, List.set_cons_succ]
      refine wpAnyH_ready (rs := [12]) (by kernel_rfl) (by simp) ?_
      refine AllReadyH.cons rfl (fun K hK => ?_) AllReadyH.nil
      rw [if_pos (by kernel_rfl)]
      go_wp2_with fail
      refine hK.out _ _ (hHeld.alloc _) (fun hHeld => ?_)
      clear hK K
      try simp only [Act.put, List.getElem_toArray, List.getElem_cons_succ, List.getElem_cons_zero, List.setIfInBounds_toArray, List.set_cons_zero, List.set_cons_succ]
      have hz : RBox (w7.alloc (.cells #[.int .i64 0, .int .i64 0, .int .u8 0, .int .i64 0, .int .i64 0, .int .i64 0, .int .i64 0, .int .i64 0, .slice none 0 0, .slice none 0 0] 192)) w7.heap.size (zeroR 0 0) zeroS := heap_alloc_new w7 _
      have ns9 := HS.out.1
      have hs9 : w2.heap.size ≤ w7.heap.size := HS.out.2.size
      refine wpAnyH_ready (rs := [13]) (by kernel_rfl) (by simp) ?_
      refine AllReadyH.cons rfl (fun K hK => ?_) AllReadyH.nil
      rw [if_pos (by kernel_rfl)]
      refine wp_store_row 192 _ _ rfl w7.heap.size #[.int .i64 ((c.a : Int) + 1), .int .i64 (b.x.y.T : Int), .int .u8 1, .int .i64 b.t.num, .int .i64 (nextOf H), .int .i64 0, .int .i64 (c.pg : Int), .int .i64 (c.off : Int), .slice s.a1 c.old.length s.c1, .slice s.a2 c.new.length s.c2] rfl rfl 192 _ hz sizeR rfl (by simp; exact ⟨rfl, rfl, rfl, rfl, rfl, rfl, rfl, rfl, rfl, rfl⟩) ?_
      refine hK.out _ _ (hHeld.then (M := [w7.heap.size]) ⟨rfl, rfl, rfl, by simp, fun i _ hn => setRow_other _ _ i _ (fun e => hn (by simp [e]))⟩ (fun i hi hm => by simp at hm; omega)) (fun hHeld => ?_)
      clear hK K
      have R9 := setRow_heap _ w7.heap.size _ #[.int .i64 ((c.a : Int) + 1), .int .i64 (b.x.y.T : Int), .int .u8 1, .int .i64 b.t.num, .int .i64 (nextOf H), .int .i64 0, .int .i64 (c.pg : Int), .int .i64 (c.off : Int), .slice s.a1 c.old.length s.c1, .slice s.a2 c.new.length s.c2] _ _ hz
      try simp only [Act.put, List.getElem_toArray, List.getElem_cons_succ, List.getElem_cons_zero]
      refine wpAnyH_take (i := 14) (v := ?_) rfl (by kernel_rfl) (by kernel_rfl) (by kernel_rfl) (fun _ _ _ h => h) (Or.inl ⟨by kernel_rfl, ?_⟩) hHeld ?_
      rotate_left
      · intro w' hSw
        go_simp
        try with_reducible rfl
      try simp only [Act.put, List.getElem_toArray, List.getElem_cons_succ, List.getElem_cons_zero, List.setIfInBounds_toArray, List.set_cons_zero, List.set_cons_succ]
      refine wpAnyH_done (by kernel_rfl) ?_ _
      go_wp2
      go_meet
      exact ⟨_, s, rfl, rfl, R9, new_base ((ns9.kept (L := []) ((Fr.refl [] _).alloc _) (fun g' hg' => nomatch hg')).kept (L := [w7.heap.size]) ⟨rfl, rfl, rfl, by simp, fun i _ hn => setRow_other _ _ i _ (fun e => hn (by simp [e]))⟩ (fun g' hg' cur t h => by simp at hg'; subst hg'; rw [hz] at h; cases h; decide)) (by simp), hs9, hHeld⟩
    · rw [if_pos (by kernel_rfl)]
      go_wp2_with fail
      refine hK.out _ _ (hHeld.alloc _) (fun hHeld => ?_)
      clear hK K
      try simp only [Act.put, List.getElem_toArray, List.getElem_cons_succ, List.getElem_cons_zero, List.setIfInBounds_toArray, List.set_cons_zero, List.set_cons_succ]
      have hz0 : RBox (w2.drew.alloc (.cells #[.int .i64 0, .int .i64 0, .int .u8 0, .int .i64 0, .int .i64 0, .int .i64 0, .int .i64 0, .int .i64 0, .slice none 0 0, .slice none 0 0] 192)) (w.heap.size + 1 + 1) (zeroR 0 0) zeroS := by
        have h1 := heap_alloc_new w2.drew (.cells #[.int .i64 0, .int .i64 0, .int .u8 0, .int .i64 0, .int .i64 0, .int .i64 0, .int .i64 0, .int .i64 0, .slice none 0 0, .slice none 0 0] 192)
        have h2 : w2.drew.heap.size = w.heap.size + 1 + 1 := hs2
        rw [h2] at h1
        exact h1
      refine wpAnyH_ready (rs := [8]) (by kernel_rfl) (by simp) ?_
      refine AllReadyH.cons rfl (fun K hK => ?_) AllReadyH.nil
      rw [if_pos (by kernel_rfl)]
      go_wp2_with (go_at_call 201; refine (RD2.out _ hHeld).mono ?_; rintro e w7 ⟨s, rfl, HS⟩)
      refine hK.out _ _ (hHeld.trans HS.out.2) (fun hHeld => ?_)
      clear hK K
      try simp only [Act.put, List.getElem_toArray, List.getElem_cons_succ, List.getElem_cons_zero, List.setIfInBounds_toArray, List.set_cons_zero, List.set_cons_succ]
      have hz : RBox w7 (w.heap.size + 1 + 1) (zeroR 0 0) zeroS := hz0.kept HS.out.2 (by simp)
      have ns9 := HS.out.1
      have hs9 := HS.out.2.size
      refine wpAnyH_take (i := 9) (v := ?_) rfl (by kernel_rfl) (by kernel_rfl) (by kernel_rfl) (fun _ _ _ h => h) (Or.inl ⟨by kernel_rfl, ?_⟩) hHeld ?_
      rotate_left
      · intro w' hSw
        go_simp
        try with_reducible rfl
      try simp only [Act.put, List.getElem_toArray, List.getElem_cons_succ, List.getElem_cons_zero, List.setIfInBounds_toArray, List.set_cons_zero, List.set_cons_succ]
      refine wpAnyH_take (i := 10) (v := ?_) rfl (by kernel_rfl) (by kernel_rfl) (by kernel_rfl) (fun _ _ _ h => h) (Or.inl ⟨by kernel_rfl, ?_⟩) hHeld ?_
      rotate_left
      · intro w' hSw
        go_simp
        try with_reducible rfl
      try simp only [Act.put, List.getElem_toArray, List.getElem_cons_succ, List.getElem_cons_zero, List.setIfInBounds_toArray, List.set_cons_zero, List.set_cons_succ]
      refine wpAnyH_take (i := 11) (v := ?_) rfl (by kernel_rfl) (by kernel_rfl) (by kernel_rfl) (fun _ _ _ h => h) (Or.inl ⟨by kernel_rfl, ?_⟩) hHeld ?_
      rotate_left
      · intro w' hSw
        go_simp
        try with_reducible rfl
      try simp only [Act.put, List.getElem_toArray, List.getElem_cons_succ, List.getElem_cons_zero, List.setIfInBounds_toArray, List.set_cons_zero, List.set_cons_succ]
      refine wpAnyH_ready (rs := [13]) (by kernel_rfl) (by simp) ?_
      refine AllReadyH.cons rfl (fun K hK => ?_) AllReadyH.nil
      rw [if_pos (by kernel_rfl)]
      refine wp_store_row 192 _ _ rfl (w.heap.size + 1 + 1) #[.int .i64 ((c.a : Int) + 1), .int .i64 (b.x.y.T : Int), .int .u8 1, .int .i64 b.t.num, .int .i64 (nextOf H), .int .i64 0, .int .i64 (c.pg : Int), .int .i64 (c.off : Int), .slice s.a1 c.old.length s.c1, .slice s.a2 c.new.length s.c2] rfl rfl 192 _ hz sizeR rfl (by simp; exact ⟨rfl, rfl, rfl, rfl, rfl, rfl, rfl, rfl, rfl, rfl⟩) ?_
      refine hK.out _ _ (hHeld.then (M := [(w.heap.size + 1 + 1)]) ⟨rfl, rfl, rfl, by simp, fun i _ hn => setRow_other _ _ i _ (fun e => hn (by simp [e]))⟩ (fun i hi hm => by simp at hm; omega)) (fun hHeld => ?_)
      clear hK K
      have R9 := setRow_heap _ (w.heap.size + 1 + 1) _ #[.int .i64 ((c.a : Int) + 1), .int .i64 (b.x.y.T : Int), .int .u8 1, .int .i64 b.t.num, .int .i64 (nextOf H), .int .i64 0, .int .i64 (c.pg : Int), .int .i64 (c.off : Int), .slice s.a1 c.old.length s.c1, .slice s.a2 c.new.length s.c2] _ _ hz
      try simp only [Act.put, List.getElem_toArray, List.getElem_cons_succ, List.getElem_cons_zero]
      refine wpAnyH_take (i := 14) (v := ?_) rfl (by kernel_rfl) (by kernel_rfl) (by kernel_rfl) (fun _ _ _ h => h) (Or.inl ⟨by kernel_rfl, ?_⟩) hHeld ?_
      rotate_left
      · intro w' hSw
        go_simp
        try with_reducible rfl
      try simp only [Act.put, List.getElem_toArray, List.getElem_cons_succ, List.getElem_cons_zero, List.setIfInBounds_toArray, List.set_cons_zero, List.set_cons_succ]
      refine wpAnyH_done (by kernel_rfl) ?_ _
      go_wp2
      go_meet
      exact ⟨_, s, rfl, rfl, R9, new_base (ns9.kept (L := [w.heap.size + 1 + 1]) ⟨rfl, rfl, rfl, by simp, fun i _ hn => setRow_other _ _ i _ (fun e => hn (by simp [e]))⟩ (fun g' hg' cur t h => by simp at hg'; subst hg'; rw [hz] at h; cases h; decide)) (by simp), by omega, hHeld⟩
  obtain ⟨Z, s, rfl, rfl, R3, ns, hZ, f3⟩ := hcut
  have hrt := ch_right HT.out.chain
  have hon := ns.o
  have hc1 := ns.c1
  obtain ⟨go, hgo, hgb, hgn⟩ : ∃ go, s.a1 = some ⟨go, 0, none⟩ ∧ Blk wc go c.old ∧ w2.heap.size ≤ go := by
    cases ha1 : s.a1 with
    | none =>
      have h1 : c.old.length = 0 := hon.nil ha1
      omega
    | some a =>
      obtain ⟨go, rfl, h2, h3, _⟩ := hon.at' a ha1
      exact ⟨go, rfl, h3, h2⟩
  have x4 : wc.cell? ⟨Z, 4, none⟩ = some (.int .i64 (nextOf H)) := R3.c4
  have x6 : wc.cell? ⟨Z, 6, none⟩ = some (.int .i64 (c.pg : Int)) := R3.c6
  have x7 : wc.cell? ⟨Z, 7, none⟩ = some (.int .i64 (c.off : Int)) := R3.c7
  have x8 : wc.cell? ⟨Z, 8, none⟩ = some (.slice (some ⟨go, 0, none⟩) c.new.length c.new.length) := by
    have h1 := R3.c8
    have h2 : s.c1 = c.old.length := hc1
    rw [hgo, h2] at h1
    have h3 : (recOf b.t.num (b.x.y.T : Int) (nextOf H) c).old.length = c.new.length := hrt.1
    rw [h3, hrt.1] at h1
    exact h1
  go_wp2_with fail
  have fd : Fr [] wc (wc.alloc (.cells #[.int .i64 (c.pg : Int), .int .i64 (c.off : Int), .slice none 0 0, .slice (some ⟨go, 0, none⟩) c.new.length c.new.length] 42)) := (Fr.refl [] wc).alloc _
  have hkb := heap_alloc_new wc (.cells #[.int .i64 (c.pg : Int), .int .i64 (c.off : Int), .slice none 0 0, .slice (some ⟨go, 0, none⟩) c.new.length c.new.length] 42)
  have hs4 : (wc.alloc (.cells #[.int .i64 (c.pg : Int), .int .i64 (c.off : Int), .slice none 0 0, .slice (some ⟨go, 0, none⟩) c.new.length c.new.length] 42)).heap.size = wc.heap.size + 1 := by simp
  generalize wc.alloc (.cells #[.int .i64 (c.pg : Int), .int .i64 (c.off : Int), .slice none 0 0, .slice (some ⟨go, 0, none⟩) c.new.length c.new.length] 42) = w4 at fd hkb hs4 ⊢
  have fe : Fr [] w4 (w4.alloc (.cells #[.func (.func 237) #[] #[.pointer (some ⟨w.heap.size, 0, none⟩), .pointer (some ⟨wc.heap.size, 0, none⟩), .pointer (some ⟨Z, 0, none⟩)], .func (.func 239) #[] #[.pointer (some ⟨w.heap.size, 0, none⟩), .pointer (some ⟨wc.heap.size, 0, none⟩), .pointer (some ⟨w.heap.size + 1, 0, none⟩)], .func (.func 240) #[] #[.pointer (some ⟨Z, 0, none⟩), .pointer (some ⟨w.heap.size + 1, 0, none⟩)]] 77)) := (Fr.refl [] w4).alloc _
  have hfl := heap_alloc_new w4 (.cells #[.func (.func 237) #[] #[.pointer (some ⟨w.heap.size, 0, none⟩), .pointer (some ⟨wc.heap.size, 0, none⟩), .pointer (some ⟨Z, 0, none⟩)], .func (.func 239) #[] #[.pointer (some ⟨w.heap.size, 0, none⟩), .pointer (some ⟨wc.heap.size, 0, none⟩), .pointer (some ⟨w.heap.size + 1, 0, none⟩)], .func (.func 240) #[] #[.pointer (some ⟨Z, 0, none⟩), .pointer (some ⟨w.heap.size + 1, 0, none⟩)]] 77)
  rw [hs4] at hfl
  generalize w4.alloc (.cells #[.func (.func 237) #[] #[.pointer (some ⟨w.heap.size, 0, none⟩), .pointer (some ⟨wc.heap.size, 0, none⟩), .pointer (some ⟨Z, 0, none⟩)], .func (.func 239) #[] #[.pointer (some ⟨w.heap.size, 0, none⟩), .pointer (some ⟨wc.heap.size, 0, none⟩), .pointer (some ⟨w.heap.size + 1, 0, none⟩)], .func (.func 240) #[] #[.pointer (some ⟨Z, 0, none⟩), .pointer (some ⟨w.heap.size + 1, 0, none⟩)]] 77) = wt at fe hfl ⊢
  have hsc : w2.heap.size ≤ wc.heap.size := f3.size
  have F2t : Fr [] w2 wt := (f3.trans fd).trans fe
  have Fwt : Fr [] w wt := (fa.trans fb).trans F2t
  have BT := HH.out.quiet Fwt
  have hBt := F2t.same (by simp) hB2
  have htt := F2t.same (by simp) htb
  have hkt : BackBox wt wc.heap.size c.pg c.off go c.new.length := fe.same (by simp) hkb
  have hZt : RBox wt Z (recOf b.t.num (b.x.y.T : Int) (nextOf H) c) s := R3.kept (fd.trans fe) (by simp)
  have hgt : Blk wt go c.old := (fd.trans fe).same (by simp) hgb
  have hglt : go < wt.heap.size := (Array.getElem?_eq_some_iff.1 hgt).1
  have hout : ∀ j, w.heap.size ≤ j → j ∉ b.dp :: b.x.own := fun j hj hm => by
    have := hlt.out j (by rcases List.mem_cons.1 hm with e | e <;> simp [e])
    omega
  have hpgn := HT.out.pgn
  have hcpg := HT.out.pgs c List.mem_cons_self
  have hpl : placeB (nextOf H) = true := by
    have h1 := HT.out.chain.2.1
    have h2 := HT.out.chain.1.hi
    have h3 := HH.out.po.lo.hE
    have h4 : 0 ≤ nextOf H := by cases H <;> simp [nextOf]; omega
    unfold placeB
    rw [decide_eq_true h4, decide_eq_true (by omega)]
    rfl
  have ke : keptOf (c :: H) = 51 + (c.new.length : Int) + keptOf H := rfl
  have kn := keptOf_nonneg H
  refine (inTurn_ok wt (some ⟨wc.heap.size + 1, 0, none⟩) 3 3 (flU w.heap.size wc.heap.size Z (w.heap.size + 1)) rfl (by omega) (UnI wt b c H) (BStep.quiet BT (Fr.refl [] wt)) ?_ (fun i p hp w' => enU w' _ _ _ _ i p hp) ?_).mono ?_
  · intro i w' hI j p hp
    obtain ⟨b', st⟩ := hI.st
    have h3 := st.fr.same (hout (wc.heap.size + 1) (by omega)) hfl
    refine ⟨_, rfl, ?_⟩
    rw [cell_of_row w' _ j _ _ _ h3]
    match j, hp with
    | 0, hp => cases hp; rfl
    | 1, hp => cases hp; rfl
    | 2, hp => cases hp; rfl
    | n + 3, hp => simp [flU] at hp
  · intro i p hp w' hI
    have hbox : ∀ b', BStep wt w' b b' → w'.heap[w.heap.size]? = some (.cells #[.pointer (some ⟨b'.bp, 0, none⟩)] 60) := fun b' st => by
      rw [st.bp]
      exact st.fr.same (hout _ (Nat.le_refl _)) hBt
    have htbx : ∀ b', BStep wt w' b b' → w'.cell? ⟨w.heap.size + 1, 0, none⟩ = some (.pointer (some ⟨b'.dp, 0, none⟩)) := fun b' st => by
      rw [st.dp]
      exact cell_of_row w' _ 0 _ _ _ (st.fr.same (hout _ (by omega)) htt)
    have hbk : ∀ b', BStep wt w' b b' → BackBox w' wc.heap.size c.pg c.off go c.new.length := fun b' st => st.fr.same (hout _ (by omega)) hkt
    have hzb : ∀ b', BStep wt w' b b' → w'.cell? ⟨Z, 4, none⟩ = some (.int .i64 (nextOf H)) := fun b' st => (hZt.kept st.fr (hout _ (by omega))).c4
    have hgk : ∀ b', BStep wt w' b b' → Blk w' go c.old := fun b' st => st.fr.same (hout _ (by omega)) hgt
    match i, hp, hI with
    | 0, hp, hI =>
      cases hp
      have h1 := HT.out.room
      have h2 := HT.out.E
      refine (un1 hI.at' HT.out.ok HT.out.und (hbox _ hI) (hbk _ hI) (hzb _ hI) (hgk _ hI) hpl hrt.1 hrt.2.1 hrt.2.2 (by omega) (by omega) (by omega)).mono ?_
      rintro e w9 ⟨rfl, y', ap, st⟩
      exact ⟨rfl, y', ap, hI.trans st⟩
    | 1, hp, ⟨y', ap, st⟩ =>
      cases hp
      refine (un2 st.at' (hbox _ st) (htbx _ st) (hbk _ st) hcpg (hgk _ st) hrt.1 hrt.2.1 hrt.2.2 (fun hk' => ?_) (by show (1 : Int) ≤ (b.x.y.E : Int) + 1; omega) (by show (b.x.y.E : Int) + 1 ≤ (y'.E : Int); rw [ap.E]; omega)).mono ?_
      · rcases st.ow _ hk' with h5 | h5
        · exact hout go (by omega) (List.mem_cons_of_mem _ h5)
        · omega
      · rintro e w9 ⟨rfl, x'', hc, st2⟩
        exact ⟨rfl, y', x'', ap, hc, ⟨_, st.at'.po⟩, st.trans st2⟩
    | 2, hp, ⟨y', x'', ap, hc, hm, st⟩ =>
      cases hp
      refine (un3 st.at' (htbx _ st) (hzb _ st) (by show Z ≠ b.dp; exact fun e => hout Z (by omega) (by rw [e]; exact List.mem_cons_self)) (by show w.heap.size + 1 ≠ b.dp; exact fun e => hout (w.heap.size + 1) (by omega) (by rw [e]; exact List.mem_cons_self))).mono ?_
      rintro e w9 ⟨rfl, st2⟩
      exact ⟨rfl, y', x'', ap, hc, hm, st.trans st2⟩
    | n + 3, hp, _ => simp [flU] at hp
  · rintro e w9 ⟨rfl, y', x'', ap, hc, ⟨wm, hm⟩, st⟩
    go_wp2_with fail
    go_ret
    exact ⟨rfl, _, un_end HH.out HT.out ap hc hm ((BStep.quiet HH.out Fwt).trans st)⟩
set_option maxHeartbeats 1000000 in
set_option maxRecDepth 100000 in
theorem undo_all {w : World} {b : Bk} (h : BkAt w b) {H : List Ch} {V : Pages} (tx : UnTx b H V) :
    Calls Tryz.prog 111 #[.pointer (some ⟨b.bp, 0, none⟩)] w fun e w' => e = .returned (.int .i64 0) ∧ ∃ b', BStep w w' b b' ∧ Tr b b' ∧ UnTx b' [] (undoAll H V) ∧ (b'.x.y.E : Int) = (b.x.y.E : Int) + keptOf H ∧ b'.t.num = b.t.num := by
  have HH := hidI h
  have HT := hidI tx
  clear h tx
  go_enter Tryz.func111, Tryz.ntmps111
  go_wp2_with fail
  go_loopw [2] (fun s2 wr => s2 = .int .i64 0 ∧ ∃ Hs b' V', Hid (BStep w wr b b' ∧ Tr b b' ∧ UnTx b' Hs V' ∧ undoAll Hs V' = undoAll H V ∧ (b'.x.y.E : Int) + keptOf Hs = (b.x.y.E : Int) + keptOf H ∧ b'.t.num = b.t.num ∧ b'.bp = b.bp)) (fun _ wr => match wr.cell? ⟨b.dp, 4, none⟩ with | some v => (intOf v).toNat | none => 0)
  case atStart => exact ⟨rfl, H, b, V, hidI ⟨BStep.quiet HH.out (Fr.refl [] w), Tr.refl b, HT.out, rfl, rfl, rfl, rfl⟩⟩
  case round =>
    obtain ⟨rfl, Hs, b', V', HR⟩ := hrel
    obtain ⟨st, tr, ut, un, hE, hnum, hbp⟩ := HR.out
    have c3 : wr.cell? ⟨b.bp, 3, none⟩ = some (.pointer (some ⟨b.dp, 0, none⟩)) := by
      have h1 := st.at'.box.c3
      rw [hbp, st.dp] at h1
      exact h1
    have d4 : wr.cell? ⟨b.dp, 4, none⟩ = some (.int .i64 (nextOf Hs)) := by
      have h1 := st.at'.dl.c4
      rw [ut.next, st.dp] at h1
      exact h1
    cases Hs with
    | nil =>
      have q : nextOf [] = 0 := rfl
      rw [q] at d4
      have HX := hidI (⟨st, tr, ut, un, hE, hnum⟩ : BStep w wr b b' ∧ Tr b b' ∧ UnTx b' [] V' ∧ undoAll [] V' = undoAll H V ∧ (b'.x.y.E : Int) + keptOf [] = (b.x.y.E : Int) + keptOf H ∧ b'.t.num = b.t.num)
      clear st tr ut un hE hnum hbp
      go_wp2_with fail
      go_ret
      obtain ⟨st, tr, ut, un, hE, hnum⟩ := HX.out
      have un' : V' = undoAll H V := un
      rw [un'] at ut
      exact ⟨rfl, b', st, tr, ut, by have : keptOf [] = 0 := rfl; omega, hnum⟩
    | cons c Hs =>
      have q : nextOf (c :: Hs) = (c.a : Int) + 1 := rfl
      rw [q] at d4
      have q1 : (0 : Int) < (c.a : Int) + 1 := by omega
      have hnx : nextOf Hs ≤ (c.a : Int) := ut.chain.2.1
      have UN := undoNext_any st.at' ut
      rw [hbp] at UN
      have HUN := hidI UN
      have HX := hidI (⟨st, tr, un, hE, hnum, hbp⟩ : BStep w wr b b' ∧ Tr b b' ∧ undoAll (c :: Hs) V' = undoAll H V ∧ (b'.x.y.E : Int) + keptOf (c :: Hs) = (b.x.y.E : Int) + keptOf H ∧ b'.t.num = b.t.num ∧ b'.bp = b.bp)
      clear st tr ut un hE hnum hbp UN
      go_wp2_with fail
      refine HUN.out.mono ?_
      rintro e w9 ⟨rfl, b9, U9⟩
      obtain ⟨st, tr, un, hE, hnum, hbp⟩ := HX.out
      have e4 : w9.cell? ⟨b.dp, 4, none⟩ = some (.int .i64 (nextOf Hs)) := by
        have h1 := U9.st.at'.dl.c4
        rw [U9.tx.next, U9.st.dp, st.dp] at h1
        exact h1
      have HX9 := hidI (⟨st.trans U9.st, tr.trans U9.tr, U9.tx, un, by rw [U9.E]; have : keptOf (c :: Hs) = 51 + (c.new.length : Int) + keptOf Hs := rfl; omega, U9.num.trans hnum, U9.st.bp.trans hbp⟩ : BStep w w9 b b9 ∧ Tr b b9 ∧ UnTx b9 Hs (undo1 c V') ∧ undoAll Hs (undo1 c V') = undoAll H V ∧ (b9.x.y.E : Int) + keptOf Hs = (b.x.y.E : Int) + keptOf H ∧ b9.t.num = b.t.num ∧ b9.bp = b.bp)
      clear st tr un hE hnum hbp U9
      go_wp2_with fail
      refine ⟨⟨rfl, Hs, b9, undo1 c V', HX9⟩, ?_⟩
      rw [e4, d4]
      simp [intOf]
      omega
end Go.Proofs.YtopaeomjndblkaaGreat

