/-
  PoolDoes: does, of Read and of a forced log.
-/
import Derived.Test.YtopaeomjndblkaaGreatW09Z
import Derived.Test.YtopaeomjndblkaaGreatW10Z
namespace Go.Proofs.YtopaeomjndblkaaGreat
open Go.RowKit Go.Maps

/-- Between two deeds, whatever the rig and the model are. -/
def PdJ (w0 w : World) (rg mb pages most : Nat) (J : Int) : Prop := ∃ x m, m.mb = mb ∧ Pd w0 w rg x m ∧ Iv pages most J x m.R m.hs
section
variable {w0 w : World} {rg : Nat} {x : Po} {m : Mo} {pages most : Nat} {J : Int}
/-- full says whether the pool is too busy for the page. -/
theorem Pd.full (h : Pd w0 w rg x m) (I : Iv pages most J x m.R m.hs) (hp : pages ≤ 1000) {q : Nat} (hq : q < pages) : ∃ bz : Bool, (bz = true ↔ Busy x q) ∧ ∀ w', Fr [] w w' → Calls Tryz.prog 76 #[.pointer (some ⟨m.mb, 0, none⟩), .int .i64 (q : Int), .int .i64 (most : Int)] w' fun e w'' => e = .returned (.bool bz) ∧ w'' = w' := by
  obtain ⟨k, hk⟩ : ∃ k, m.hs[q]? = some k := ⟨_, List.getElem?_eq_getElem (by rw [I.hl]; exact hq)⟩
  refine ⟨decide ((most : Int) ≤ (hN m.hs pages : Int)) && (k == 0), ?_, fun w' f => ?_⟩
  · have e := full_busy h.rig.po I.hh (by rw [I.hl, I.pg]) (by rw [I.pg]; exact hq) hk
    rw [I.mo, I.pg] at e
    exact e
  · have M := (h.quiet f).mo
    have hb := M.box
    have hd := M.hd
    unfold Mo.box at hb
    rw [I.hl] at hb hd
    exact full_any w' m.mb m.ad m.hb m.R.length m.c pages m.hs hb hd hp q (most : Int) k hq hk
theorem pread_busy (h : Pd w0 w rg x m) {q : Nat} (hq : q < x.pages) (hb : Busy x q) : Calls Tryz.prog 71 #[.pointer (some ⟨x.pp, 0, none⟩), .int .i64 (q : Int)] w fun e w' => e = .returned (.tuple #[.slice none 0 0, .int .i64 9]) ∧ Fr [] w w' := by
  refine (rig_read h.rig hq).mono ?_
  rintro e w' (⟨h1, _, h3⟩ | ⟨g, _, f, x', R⟩)
  · exact ⟨h1, h3⟩
  · exact (hb.fnd R.fnd).elim
theorem pread_fine (h : Pd w0 w rg x m) {q : Nat} (hq : q < x.pages) (hb : ¬ Busy x q) : Calls Tryz.prog 71 #[.pointer (some ⟨x.pp, 0, none⟩), .int .i64 (q : Int)] w fun e w' => ∃ g, e = .returned (.tuple #[.slice (some ⟨g, 0, none⟩) 512 512, .int .i64 0]) ∧ ∃ f x', RRead w w' rg x x' q g f := by
  refine (rig_read h.rig hq).mono ?_
  rintro e w' (⟨_, h2, _⟩ | h)
  · exact (hb h2).elim
  · exact h
/-- A page was asked for. -/
theorem Pd.fnd (h : Pd w0 w rg x m) {w' : World} {x' : Po} {q : Nat} {f : Fm} (R : RigAt w' rg x') (st : Step w w' x x') (F : Fnd x x' q f) : Pd w0 w' rg x' m := h.step st R (F.alike h.rig.po.nod).1.2.2.2.1
theorem Pd.forced (h : Pd w0 w rg x m) (I : Iv pages most J x m.R m.hs) : Calls Tryz.prog 84 #[.pointer (some ⟨x.y.p, 0, none⟩)] w fun e w' => e = .returned (.int .i64 0) ∧ Hid (PdJ w0 w' rg m.mb pages most (J + 1)) := by
  refine (lo_force h.rig.po.lo).mono ?_
  rintro e w' ⟨rfl, y', L, F, _, ow, f⟩
  have st : Step w w' x { x with y := y' } := Step.lower h.rig.po L f (fun k hk => by
    unfold Lo.own
    exact List.mem_append_left _ hk) ow F.d F.p F.bs F.bo F.nb F.first F.count (by rw [F.E]; exact Nat.le_refl _) (fun q hq => F.out _ (by have := h.rig.po.dis; omega)) F.lw
  exact ⟨rfl, hidI ⟨{ x with y := y' }, m, rfl, h.step st (h.rig.step st F.d F.p rfl) rfl, (I.forced F).le (by omega)⟩⟩
/-- The last version of a row. -/
theorem row_last {r : Rw} {n : Nat} (hn : r.vs.length = n) {v : Vr} (hv : r.vs.getLast? = some v) : 0 < n ∧ r.vs[n - 1]? = some v := by
  rw [List.getLast?_eq_getElem?, hn] at hv
  exact ⟨by have := (List.getElem?_eq_some_iff.1 hv).1; omega, hv⟩
end
section
variable {w0 w : World} {rg : Nat} {x : Po} {m : Mo} {pages most : Nat} {J : Int}
set_option maxHeartbeats 4000000 in
set_option maxRecDepth 100000 in
/-- 7: the log is forced. -/
theorem pdoes7 (h : Pd w0 w rg x m) (I : Iv pages most J x m.R m.hs) (hp : pages ≤ 1000) (d : DeedV) (ok : DeedOk w d) (PK : Hid (∀ w', Calls Tryz.prog 40 #[.int .i64 d.kind, .int .i64 8] w' fun e w'' => e = .returned (.int .i64 7) ∧ w'' = w')) :
    Calls Tryz.prog 18 #[.pointer (some ⟨rg, 0, none⟩), .pointer (some ⟨m.mb, 0, none⟩), .agg (deedV d).toArray, .int .i64 (most : Int)] w fun e w' => e = .returned (.bool true) ∧ Hid (PdJ w0 w' rg m.mb pages most (J + 1)) := by
  obtain ⟨db, hdb⟩ : ∃ db, w.heap.size = db := ⟨_, rfl⟩
  unfold deedV
  obtain ⟨pq, hpq⟩ : ∃ pq : Int, d.page = pq := ⟨_, rfl⟩
  rw [hpq]
  have f1 : Fr [] w (w.alloc (.cells #[.int .i64 d.kind, .int .i64 pq, .int .i64 d.blk, .int .i64 d.off, .slice d.a1 d.l1.length d.c1, .slice d.a2 d.l2.length d.c2, .int .i64 d.N, .bool d.odd] 44)) := (Fr.refl [] w).alloc _
  have h1 := heap_alloc_new w (.cells #[.int .i64 d.kind, .int .i64 pq, .int .i64 d.blk, .int .i64 d.off, .slice d.a1 d.l1.length d.c1, .slice d.a2 d.l2.length d.c2, .int .i64 d.N, .bool d.odd] 44)
  rw [hdb] at h1
  obtain ⟨w1, hw1⟩ : ∃ w1, w.alloc (.cells #[.int .i64 d.kind, .int .i64 pq, .int .i64 d.blk, .int .i64 d.off, .slice d.a1 d.l1.length d.c1, .slice d.a2 d.l2.length d.c2, .int .i64 d.N, .bool d.odd] 44) = w1 := ⟨_, rfl⟩
  rw [hw1] at f1 h1
  have hdl : db < w1.heap.size := (Array.getElem?_eq_some_iff.1 h1).1
  have hdn : db ∉ x.own ∧ db ∉ m.own := by
    rw [← hdb]
    exact ⟨fun e => by have := h.lt _ (List.mem_cons_of_mem _ (List.mem_cons_of_mem _ e)); omega, fun e => by have := (h.mo.lt _ e).2; omega⟩
  have X1 := hidI (h.quiet f1)
  have HI := hidI I
  have D1 := hidI h1
  have HO := hidI (And.intro ok f1)
  have HQ := hidI hpq
  have d0 : w1.cell? ⟨db, 0, none⟩ = some (.int .i64 d.kind) := cell_of_row w1 db 0 _ _ _ h1
  have d1 : w1.cell? ⟨db, 1, none⟩ = some (.int .i64 pq) := cell_of_row w1 db 1 _ _ _ h1
  obtain ⟨mb, hmb⟩ : ∃ mb, m.mb = mb := ⟨_, rfl⟩
  have m0 : w1.cell? ⟨mb, 0, none⟩ = some (.slice m.ad pages m.c) := by
    rw [← hmb, ← I.rl]
    exact X1.out.mo.c0
  have hxp := I.pg
  rw [hmb]
  clear h I f1 h1 hpq ok
  go_enter Tryz.func18, Tryz.ntmps18
  by_cases hneg : pq < 0
  · have q0 : ¬ 0 ≤ pq := by omega
    have hout : pq < 0 ∨ (x.pages : Int) ≤ pq := Or.inl hneg
    clear hneg
    have r1 : w1.cell? ⟨rg, 1, none⟩ = some (.pointer (some ⟨x.y.p, 0, none⟩)) := X1.out.l
    have LX := X1.out.forced HI.out
    rw [hmb] at LX
    go_wp2_with (first
      | (go_at_call 40; refine (PK.out _).mono ?_; rintro e wz ⟨rfl, hz⟩; rw [hz]; clear hz)
      | (go_at_call 84; refine LX.mono ?_; rintro e w2 ⟨rfl, P2⟩))
    go_ret
    exact ⟨rfl, P2⟩
  by_cases hhi : (pages : Int) ≤ pq
  · have q0 : 0 ≤ pq := by omega
    have q1 : ¬ pq < (pages : Int) := by omega
    have hout : pq < 0 ∨ (x.pages : Int) ≤ pq := Or.inr (by rw [hxp]; exact hhi)
    clear hhi hneg
    have r1 : w1.cell? ⟨rg, 1, none⟩ = some (.pointer (some ⟨x.y.p, 0, none⟩)) := X1.out.l
    have LX := X1.out.forced HI.out
    rw [hmb] at LX
    go_wp2_with (first
      | (go_at_call 40; refine (PK.out _).mono ?_; rintro e wz ⟨rfl, hz⟩; rw [hz]; clear hz)
      | (go_at_call 84; refine LX.mono ?_; rintro e w2 ⟨rfl, P2⟩))
    go_ret
    exact ⟨rfl, P2⟩
  obtain ⟨q, rfl⟩ : ∃ q : Nat, pq = (q : Int) := ⟨pq.toNat, by omega⟩
  have q0 : (0 : Int) ≤ (q : Int) := by omega
  have q1 : (q : Int) < (pages : Int) := by omega
  have hqp : q < pages := by omega
  obtain ⟨bz, hbz, FX0⟩ := X1.out.full HI.out hp hqp
  rw [hmb] at FX0
  have FX := hidI FX0
  clear FX0 hhi hneg
  cases bz with
  | true =>
    have hB : Busy x q := hbz.1 rfl
    clear hbz
    have r1 : w1.cell? ⟨rg, 1, none⟩ = some (.pointer (some ⟨x.y.p, 0, none⟩)) := X1.out.l
    have LX := X1.out.forced HI.out
    rw [hmb] at LX
    go_wp2_with (first
      | (go_at_call 40; refine (PK.out _).mono ?_; rintro e wz ⟨rfl, hz⟩; rw [hz]; clear hz)
      | (go_at_call 76; refine (FX.out _ (Fr.refl [] w1)).mono ?_; rintro e wz ⟨rfl, hz⟩; rw [hz]; clear hz)
      | (go_at_call 84; refine LX.mono ?_; rintro e w2 ⟨rfl, P2⟩))
    go_ret
    exact ⟨rfl, P2⟩
  | false =>
    have hB : ¬ Busy x q := fun e => by have := hbz.2 e; cases this
    clear hbz
    have r1 : w1.cell? ⟨rg, 1, none⟩ = some (.pointer (some ⟨x.y.p, 0, none⟩)) := X1.out.l
    have LX := X1.out.forced HI.out
    rw [hmb] at LX
    go_wp2_with (first
      | (go_at_call 40; refine (PK.out _).mono ?_; rintro e wz ⟨rfl, hz⟩; rw [hz]; clear hz)
      | (go_at_call 76; refine (FX.out _ (Fr.refl [] w1)).mono ?_; rintro e wz ⟨rfl, hz⟩; rw [hz]; clear hz)
      | (go_at_call 84; refine LX.mono ?_; rintro e w2 ⟨rfl, P2⟩))
    go_ret
    exact ⟨rfl, P2⟩
set_option maxHeartbeats 4000000 in
set_option maxRecDepth 100000 in
/-- 0: Read. -/
theorem pdoes0 (h : Pd w0 w rg x m) (I : Iv pages most J x m.R m.hs) (hp : pages ≤ 1000) (d : DeedV) (ok : DeedOk w d) (PK : Hid (∀ w', Calls Tryz.prog 40 #[.int .i64 d.kind, .int .i64 8] w' fun e w'' => e = .returned (.int .i64 0) ∧ w'' = w')) :
    Calls Tryz.prog 18 #[.pointer (some ⟨rg, 0, none⟩), .pointer (some ⟨m.mb, 0, none⟩), .agg (deedV d).toArray, .int .i64 (most : Int)] w fun e w' => e = .returned (.bool true) ∧ Hid (PdJ w0 w' rg m.mb pages most (J + 1)) := by
  obtain ⟨db, hdb⟩ : ∃ db, w.heap.size = db := ⟨_, rfl⟩
  unfold deedV
  obtain ⟨pq, hpq⟩ : ∃ pq : Int, d.page = pq := ⟨_, rfl⟩
  rw [hpq]
  have f1 : Fr [] w (w.alloc (.cells #[.int .i64 d.kind, .int .i64 pq, .int .i64 d.blk, .int .i64 d.off, .slice d.a1 d.l1.length d.c1, .slice d.a2 d.l2.length d.c2, .int .i64 d.N, .bool d.odd] 44)) := (Fr.refl [] w).alloc _
  have h1 := heap_alloc_new w (.cells #[.int .i64 d.kind, .int .i64 pq, .int .i64 d.blk, .int .i64 d.off, .slice d.a1 d.l1.length d.c1, .slice d.a2 d.l2.length d.c2, .int .i64 d.N, .bool d.odd] 44)
  rw [hdb] at h1
  obtain ⟨w1, hw1⟩ : ∃ w1, w.alloc (.cells #[.int .i64 d.kind, .int .i64 pq, .int .i64 d.blk, .int .i64 d.off, .slice d.a1 d.l1.length d.c1, .slice d.a2 d.l2.length d.c2, .int .i64 d.N, .bool d.odd] 44) = w1 := ⟨_, rfl⟩
  rw [hw1] at f1 h1
  have hdl : db < w1.heap.size := (Array.getElem?_eq_some_iff.1 h1).1
  have hdn : db ∉ x.own ∧ db ∉ m.own := by
    rw [← hdb]
    exact ⟨fun e => by have := h.lt _ (List.mem_cons_of_mem _ (List.mem_cons_of_mem _ e)); omega, fun e => by have := (h.mo.lt _ e).2; omega⟩
  have X1 := hidI (h.quiet f1)
  have HI := hidI I
  have D1 := hidI h1
  have HO := hidI (And.intro ok f1)
  have HQ := hidI hpq
  have d0 : w1.cell? ⟨db, 0, none⟩ = some (.int .i64 d.kind) := cell_of_row w1 db 0 _ _ _ h1
  have d1 : w1.cell? ⟨db, 1, none⟩ = some (.int .i64 pq) := cell_of_row w1 db 1 _ _ _ h1
  obtain ⟨mb, hmb⟩ : ∃ mb, m.mb = mb := ⟨_, rfl⟩
  have m0 : w1.cell? ⟨mb, 0, none⟩ = some (.slice m.ad pages m.c) := by
    rw [← hmb, ← I.rl]
    exact X1.out.mo.c0
  have hxp := I.pg
  rw [hmb]
  clear h I f1 h1 hpq ok
  go_enter Tryz.func18, Tryz.ntmps18
  by_cases hneg : pq < 0
  · have q0 : ¬ 0 ≤ pq := by omega
    have hout : pq < 0 ∨ (x.pages : Int) ≤ pq := Or.inl hneg
    clear hneg
    have KC : Hid (∀ w', Fr [] w1 w' → w'.cell? ⟨rg, 2, none⟩ = some (.pointer (some ⟨x.pp, 0, none⟩)) ∧ w'.cell? ⟨db, 1, none⟩ = some (.int .i64 pq)) := hidI (fun w' f => ⟨(X1.out.quiet f).p, cell_of_row w' db 1 _ _ _ (f.same (by simp) D1.out)⟩)
    have PX := read_out (X1.out.quiet (Fr.refl [] w1).drew).rig.po.box (k := pq) hout
    go_upto_region 11 with (go_at_call 40; refine (PK.out _).mono ?_; rintro e wz ⟨rfl, hz⟩; rw [hz]; clear hz)
    go_region_held3 (fun w' => w'.cell? ⟨rg, 2, none⟩ = some (.pointer (some ⟨x.pp, 0, none⟩)) ∧ w'.cell? ⟨db, 1, none⟩ = some (.int .i64 pq)) (first | exact KC.out _ (Fr.refl [] w1).drew | exact KC.out _ (Fr.refl [] w1) | exact KK) ((first
      | (go_at_call 71; refine PX.mono ?_; rintro e w2 ⟨rfl, hz⟩; have F2 : Hid (Fr [] w1 w2) := hidI (by rw [hz]; exact (Fr.refl [] w1).drew); have KK := KC.out _ F2.out; clear hz)))
    obtain ⟨_, d1b⟩ := KC.out _ F2.out
    clear KK PX
    go_upto_region 14 with fail
    go_quiet (fail)
    go_wp2_with fail
    go_ret
    exact ⟨rfl, hidI ⟨x, m, hmb, X1.out.quiet (F2.out.drewN nq), HI.out.le (by omega)⟩⟩
  by_cases hhi : (pages : Int) ≤ pq
  · have q0 : 0 ≤ pq := by omega
    have q1 : ¬ pq < (pages : Int) := by omega
    have hout : pq < 0 ∨ (x.pages : Int) ≤ pq := Or.inr (by rw [hxp]; exact hhi)
    clear hhi hneg
    have KC : Hid (∀ w', Fr [] w1 w' → w'.cell? ⟨rg, 2, none⟩ = some (.pointer (some ⟨x.pp, 0, none⟩)) ∧ w'.cell? ⟨db, 1, none⟩ = some (.int .i64 pq)) := hidI (fun w' f => ⟨(X1.out.quiet f).p, cell_of_row w' db 1 _ _ _ (f.same (by simp) D1.out)⟩)
    have PX := read_out (X1.out.quiet (Fr.refl [] w1).drew).rig.po.box (k := pq) hout
    go_upto_region 11 with (go_at_call 40; refine (PK.out _).mono ?_; rintro e wz ⟨rfl, hz⟩; rw [hz]; clear hz)
    go_region_held3 (fun w' => w'.cell? ⟨rg, 2, none⟩ = some (.pointer (some ⟨x.pp, 0, none⟩)) ∧ w'.cell? ⟨db, 1, none⟩ = some (.int .i64 pq)) (first | exact KC.out _ (Fr.refl [] w1).drew | exact KC.out _ (Fr.refl [] w1) | exact KK) ((first
      | (go_at_call 71; refine PX.mono ?_; rintro e w2 ⟨rfl, hz⟩; have F2 : Hid (Fr [] w1 w2) := hidI (by rw [hz]; exact (Fr.refl [] w1).drew); have KK := KC.out _ F2.out; clear hz)))
    obtain ⟨_, d1b⟩ := KC.out _ F2.out
    clear KK PX
    go_upto_region 14 with fail
    go_quiet (fail)
    go_wp2_with fail
    go_ret
    exact ⟨rfl, hidI ⟨x, m, hmb, X1.out.quiet (F2.out.drewN nq), HI.out.le (by omega)⟩⟩
  obtain ⟨q, rfl⟩ : ∃ q : Nat, pq = (q : Int) := ⟨pq.toNat, by omega⟩
  have q0 : (0 : Int) ≤ (q : Int) := by omega
  have q1 : (q : Int) < (pages : Int) := by omega
  have hqp : q < pages := by omega
  obtain ⟨bz, hbz, FX0⟩ := X1.out.full HI.out hp hqp
  rw [hmb] at FX0
  have FX := hidI FX0
  clear FX0 hhi hneg
  cases bz with
  | true =>
    have hB : Busy x q := hbz.1 rfl
    clear hbz
    have KC : Hid (∀ w', Fr [] w1 w' → w'.cell? ⟨rg, 2, none⟩ = some (.pointer (some ⟨x.pp, 0, none⟩)) ∧ w'.cell? ⟨db, 1, none⟩ = some (.int .i64 (q : Int))) := hidI (fun w' f => ⟨(X1.out.quiet f).p, cell_of_row w' db 1 _ _ _ (f.same (by simp) D1.out)⟩)
    have PX := pread_busy (X1.out.quiet (Fr.refl [] w1).drew) (by rw [hxp]; exact hqp) hB
    go_upto_region 11 with (first
      | (go_at_call 40; refine (PK.out _).mono ?_; rintro e wz ⟨rfl, hz⟩; rw [hz]; clear hz)
      | (go_at_call 76; refine (FX.out _ (Fr.refl [] w1)).mono ?_; rintro e wz ⟨rfl, hz⟩; rw [hz]; clear hz))
    go_region_held3 (fun w' => w'.cell? ⟨rg, 2, none⟩ = some (.pointer (some ⟨x.pp, 0, none⟩)) ∧ w'.cell? ⟨db, 1, none⟩ = some (.int .i64 (q : Int))) (first | exact KC.out _ (Fr.refl [] w1).drew | exact KC.out _ (Fr.refl [] w1) | exact KK) ((first
      | (go_at_call 71; refine PX.mono ?_; rintro e w2 ⟨rfl, f2⟩; have F2 : Hid (Fr [] w1 w2) := hidI ((Fr.refl [] w1).drew.trans f2); have KK := KC.out _ F2.out; clear f2)))
    obtain ⟨_, d1b⟩ := KC.out _ F2.out
    clear KK PX
    go_upto_region 14 with fail
    go_quiet (fail)
    go_wp2_with fail
    go_ret
    exact ⟨rfl, hidI ⟨x, m, hmb, X1.out.quiet (F2.out.drewN nq), HI.out.le (by omega)⟩⟩
  | false =>
    have hB : ¬ Busy x q := fun e => by have := hbz.2 e; cases this
    clear hbz
    have KC : Hid (∀ w', Fr [] w1 w' → w'.cell? ⟨rg, 2, none⟩ = some (.pointer (some ⟨x.pp, 0, none⟩)) ∧ w'.cell? ⟨db, 1, none⟩ = some (.int .i64 (q : Int))) := hidI (fun w' f => ⟨(X1.out.quiet f).p, cell_of_row w' db 1 _ _ _ (f.same (by simp) D1.out)⟩)
    have XD := hidI (X1.out.quiet (Fr.refl [] w1).drew)
    have DD := hidI ((Fr.refl [] w1).drew.same (by simp) D1.out)
    have PX := pread_fine XD.out (by rw [hxp]; exact hqp) hB
    go_upto_region 11 with (first
      | (go_at_call 40; refine (PK.out _).mono ?_; rintro e wz ⟨rfl, hz⟩; rw [hz]; clear hz)
      | (go_at_call 76; refine (FX.out _ (Fr.refl [] w1)).mono ?_; rintro e wz ⟨rfl, hz⟩; rw [hz]; clear hz))
    go_region_held3 (fun w' => w'.cell? ⟨rg, 2, none⟩ = some (.pointer (some ⟨x.pp, 0, none⟩)) ∧ w'.cell? ⟨db, 1, none⟩ = some (.int .i64 (q : Int))) (first | exact KC.out _ (Fr.refl [] w1).drew | exact KC.out _ (Fr.refl [] w1) | exact KK) ((first
      | (go_at_call 71; refine PX.mono ?_; rintro e w2 ⟨g2, rfl, f, x2, R2⟩; have X2 := hidI (XD.out.fnd R2.at' R2.st R2.fnd); have I2 := hidI (HI.out.fnd R2.fnd hqp R2.at'.po.nod); have D2 := hidI (R2.st.fr.same hdn.1 DD.out); have B2 := hidI R2.row; have V2 := hidI ((R2.fnd.alike XD.out.rig.po.nod).1.2.2.2.2.2.2 q (by rw [hxp]; exact hqp) f.l (R2.fnd.alike XD.out.rig.po.nod).2.1); have L2 : f.l.length = 512 := Val.len XD.out.rig.po (R2.fnd.alike XD.out.rig.po.nod).2.1; have KK : w2.cell? ⟨rg, 2, none⟩ = some (.pointer (some ⟨x.pp, 0, none⟩)) ∧ w2.cell? ⟨db, 1, none⟩ = some (.int .i64 (q : Int)) := ⟨by have h9 := X2.out.p; rw [(R2.fnd.alike XD.out.rig.po.nod).1.2.2.2.1] at h9; exact h9, cell_of_row w2 db 1 _ _ _ D2.out⟩; clear R2)))
    clear KK PX KC XD DD
    obtain ⟨r, hr⟩ : ∃ r, m.R[q]? = some r := ⟨_, List.getElem?_eq_getElem (by rw [HI.out.rl]; exact hqp)⟩
    obtain ⟨tb, htb⟩ := X2.out.mo.at hr
    obtain ⟨n, hn⟩ : ∃ n, r.vs.length = n := ⟨_, rfl⟩
    obtain ⟨v, hv, hval, _⟩ := (I2.out.rc q r hr).last
    obtain ⟨hn0, hat⟩ := row_last hn hv
    have hmax := (X2.out.mo.row r (List.mem_of_getElem? hr)).max
    rw [hn] at hmax
    have hvl : v.l = f.l := Val.uniq X2.out.rig.po.nod hval V2.out
    have KD : Hid (∀ w', Fr [] w2 w' → w'.cell? ⟨mb, 0, none⟩ = some (.slice (some ⟨tb, 0, none⟩) pages m.c) ∧ w'.cell? ⟨tb, q, none⟩ = some (.slice (some ⟨r.g, 0, none⟩) n r.c) ∧ w'.cell? ⟨r.g, (n - 1) * 2, none⟩ = some (.slice (some ⟨v.g, 0, none⟩) 512 v.c) ∧ w'.cell? ⟨db, 1, none⟩ = some (.int .i64 (q : Int))) := hidI (fun w' f => by
      have Y := X2.out.quiet f
      have Z := X2.out.rdm hr htb hn f
      have R := Y.mo.row r (List.mem_of_getElem? hr)
      refine ⟨?_, Z.t, (R.cells hat).1, cell_of_row w' db 1 _ _ _ (f.same (by simp) D2.out)⟩
      rw [← hmb, ← HI.out.rl]
      exact Z.m0)
    have bv := (X2.out.quiet (Fr.refl [] w2).drew).mo.row r (List.mem_of_getElem? hr) |>.by' v (List.mem_of_getLast? hv)
    have SX := same_any w2.drew (some ⟨g2, 0, none⟩) (some ⟨v.g, 0, none⟩) f.l v.l 512 512 v.c ((B2.out.kept (Fr.refl [] w2).drew (by simp)).bytes) bv.b.bytes L2 bv.l (by omega)
    rw [show (f.l == v.l) = true by rw [hvl]; simp] at SX
    have e1 : IntKind.i64.wrap ((n : Int) - 1) = ((n - 1 : Nat) : Int) := by
      rw [wrapI _ (by omega) (by omega)]
      omega
    have e2 : ((n - 1 : Nat) : Int) < (n : Int) := by omega
    have e3 : (0 : Int) ≤ ((n - 1 : Nat) : Int) := by omega
    clear hat hval hv bv hn0
    go_upto_region 14 with fail
    refine wp_region_held_drew (S := fun w' => Fr [] w2 w') (by kernel_rfl) (Fr.refl [] w2).drew (fun hHeld => ?_)
    refine wpAnyH_take (i := 0) (v := ?_) rfl (by kernel_rfl) (by kernel_rfl) (by kernel_rfl) (fun _ _ _ h => h) (Or.inl ⟨by kernel_rfl, ?_⟩) hHeld ?_
    rotate_left
    · intro w' hSw
      go_simp
      try with_reducible rfl
    try simp only [Act.put, List.getElem_toArray, List.getElem_cons_zero, List.setIfInBounds_toArray, List.set_cons_zero, List.set_cons_succ]
    refine wpAnyH_take (i := 1) (v := ?_) rfl (by kernel_rfl) (by kernel_rfl) (by kernel_rfl) (fun _ _ _ h => h) (Or.inl ⟨by kernel_rfl, ?_⟩) hHeld ?_
    rotate_left
    · intro w' hSw
      go_simp
      try with_reducible rfl
    try simp only [Act.put, List.getElem_toArray, List.getElem_cons_succ, List.getElem_cons_zero, List.setIfInBounds_toArray, List.set_cons_zero, List.set_cons_succ]
    refine wpAnyH_take (i := 2) (v := ?_) rfl (by kernel_rfl) (by kernel_rfl) (by kernel_rfl) (fun _ _ _ h => h) (Or.inl ⟨by kernel_rfl, ?_⟩) hHeld ?_
    rotate_left
    · intro w' hSw
      go_simp
      try with_reducible rfl
    try simp only [Act.put, List.getElem_toArray, List.getElem_cons_succ, List.getElem_cons_zero, List.setIfInBounds_toArray, List.set_cons_zero, List.set_cons_succ]
    refine wpAnyH_take (i := 3) (v := undef) rfl (by kernel_rfl) (by kernel_rfl) (by kernel_rfl) (fun _ _ _ h => h) (Or.inr ⟨by kernel_rfl, rfl⟩) hHeld ?_
    try simp only [Act.put, List.getElem_toArray, List.getElem_cons_succ, List.getElem_cons_zero, List.setIfInBounds_toArray, List.set_cons_zero, List.set_cons_succ]
    refine wpAnyH_take (i := 4) (v := undef) rfl (by kernel_rfl) (by kernel_rfl) (by kernel_rfl) (fun _ _ _ h => h) (Or.inr ⟨by kernel_rfl, rfl⟩) hHeld ?_
    try simp only [Act.put, List.getElem_toArray, List.getElem_cons_succ, List.getElem_cons_zero, List.setIfInBounds_toArray, List.set_cons_zero, List.set_cons_succ]
    refine wpAnyH_take (i := 5) (v := undef) rfl (by kernel_rfl) (by kernel_rfl) (by kernel_rfl) (fun _ _ _ h => h) (Or.inr ⟨by kernel_rfl, rfl⟩) hHeld ?_
    try simp only [Act.put, List.getElem_toArray, List.getElem_cons_succ, List.getElem_cons_zero, List.setIfInBounds_toArray, List.set_cons_zero, List.set_cons_succ]
    refine wpAnyH_take (i := 6) (v := ?_) rfl (by kernel_rfl) (by kernel_rfl) (by kernel_rfl) (fun _ _ _ h => h) (Or.inl ⟨by kernel_rfl, ?_⟩) hHeld ?_
    rotate_left
    · intro w' hSw
      go_simp
      try with_reducible rfl
    try simp only [Act.put, List.getElem_toArray, List.getElem_cons_succ, List.getElem_cons_zero, List.setIfInBounds_toArray, List.set_cons_zero, List.set_cons_succ]
    refine wpAnyH_take (i := 7) (v := ?_) rfl (by kernel_rfl) (by kernel_rfl) (by kernel_rfl) (fun _ _ _ h => h) (Or.inl ⟨by kernel_rfl, ?_⟩) hHeld ?_
    rotate_left
    · intro w' hSw
      go_simp
      try with_reducible rfl
    try simp only [Act.put, List.getElem_toArray, List.getElem_cons_succ, List.getElem_cons_zero, List.setIfInBounds_toArray, List.set_cons_zero, List.set_cons_succ]
    refine wpAnyH_take (i := 8) (v := ?_) rfl (by kernel_rfl) (by kernel_rfl) (by kernel_rfl) (fun _ _ _ h => h) (Or.inl ⟨by kernel_rfl, ?_⟩) hHeld ?_
    rotate_left
    · intro w' hSw
      go_simp
      try with_reducible rfl
    try simp only [Act.put, List.getElem_toArray, List.getElem_cons_succ, List.getElem_cons_zero, List.setIfInBounds_toArray, List.set_cons_zero, List.set_cons_succ]
    refine wpAnyH_take (i := 9) (v := ?_) rfl (by kernel_rfl) (by kernel_rfl) (by kernel_rfl) (fun _ _ _ h => h) (Or.inl ⟨by kernel_rfl, ?_⟩) hHeld ?_
    rotate_left
    · intro w' hSw
      go_simp
      try with_reducible rfl
    try simp only [Act.put, List.getElem_toArray, List.getElem_cons_succ, List.getElem_cons_zero, List.setIfInBounds_toArray, List.set_cons_zero, List.set_cons_succ]
    refine wpAnyH_take (i := 10) (v := ?_) rfl (by kernel_rfl) (by kernel_rfl) (by kernel_rfl) (fun _ _ _ h => h) (Or.inl ⟨by kernel_rfl, ?_⟩) hHeld ?_
    rotate_left
    · intro w' hSw
      go_simp
      try with_reducible rfl
    try simp only [Act.put, List.getElem_toArray, List.getElem_cons_succ, List.getElem_cons_zero, List.setIfInBounds_toArray, List.set_cons_zero, List.set_cons_succ]
    refine wpAnyH_take (i := 11) (v := ?_) rfl (by kernel_rfl) (by kernel_rfl) (by kernel_rfl) (fun _ _ _ h => h) (Or.inl ⟨by kernel_rfl, ?_⟩) hHeld ?_
    rotate_left
    · intro w' hSw
      go_simp
      try with_reducible rfl
    try simp only [Act.put, List.getElem_toArray, List.getElem_cons_succ, List.getElem_cons_zero, List.setIfInBounds_toArray, List.set_cons_zero, List.set_cons_succ]
    refine wpAnyH_take (i := 12) (v := ?_) rfl (by kernel_rfl) (by kernel_rfl) (by kernel_rfl) (fun _ _ _ h => h) (Or.inl ⟨by kernel_rfl, ?_⟩) hHeld ?_
    rotate_left
    · intro w' hSw
      go_simp
      try with_reducible rfl
    try simp only [Act.put, List.getElem_toArray, List.getElem_cons_succ, List.getElem_cons_zero, List.setIfInBounds_toArray, List.set_cons_zero, List.set_cons_succ]
    refine wpAnyH_take (i := 13) (v := ?_) rfl (by kernel_rfl) (by kernel_rfl) (by kernel_rfl) (fun _ _ _ h => h) (Or.inl ⟨by kernel_rfl, ?_⟩) hHeld ?_
    rotate_left
    · intro w' hSw
      go_simp
      try with_reducible rfl
    try simp only [Act.put, List.getElem_toArray, List.getElem_cons_succ, List.getElem_cons_zero, List.setIfInBounds_toArray, List.set_cons_zero, List.set_cons_succ]
    refine wpAnyH_take (i := 14) (v := ?_) rfl (by kernel_rfl) (by kernel_rfl) (by kernel_rfl) (fun _ _ _ h => h) (Or.inl ⟨by kernel_rfl, ?_⟩) hHeld ?_
    rotate_left
    · intro w' hSw
      go_simp
      try with_reducible rfl
    try simp only [Act.put, List.getElem_toArray, List.getElem_cons_succ, List.getElem_cons_zero, List.setIfInBounds_toArray, List.set_cons_zero, List.set_cons_succ]
    refine wpAnyH_take (i := 15) (v := ?_) rfl (by kernel_rfl) (by kernel_rfl) (by kernel_rfl) (fun _ _ _ h => h) (Or.inl ⟨by kernel_rfl, ?_⟩) hHeld ?_
    rotate_left
    · intro w' hSw
      obtain ⟨y0, y1, y2, y3⟩ := KD.out w' hSw
      go_simp
      try with_reducible rfl
    try simp only [Act.put, List.getElem_toArray, List.getElem_cons_succ, List.getElem_cons_zero, List.setIfInBounds_toArray, List.set_cons_zero, List.set_cons_succ]
    refine wpAnyH_take (i := 16) (v := ?_) rfl (by kernel_rfl) (by kernel_rfl) (by kernel_rfl) (fun _ _ _ h => h) (Or.inl ⟨by kernel_rfl, ?_⟩) hHeld ?_
    rotate_left
    · intro w' hSw
      go_simp
      try with_reducible rfl
    try simp only [Act.put, List.getElem_toArray, List.getElem_cons_succ, List.getElem_cons_zero, List.setIfInBounds_toArray, List.set_cons_zero, List.set_cons_succ]
    refine wpAnyH_take (i := 17) (v := ?_) rfl (by kernel_rfl) (by kernel_rfl) (by kernel_rfl) (fun _ _ _ h => h) (Or.inl ⟨by kernel_rfl, ?_⟩) hHeld ?_
    rotate_left
    · intro w' hSw
      obtain ⟨y0, y1, y2, y3⟩ := KD.out w' hSw
      go_simp
      try with_reducible rfl
    try simp only [Act.put, List.getElem_toArray, List.getElem_cons_succ, List.getElem_cons_zero, List.setIfInBounds_toArray, List.set_cons_zero, List.set_cons_succ]
    refine wpAnyH_take (i := 18) (v := ?_) rfl (by kernel_rfl) (by kernel_rfl) (by kernel_rfl) (fun _ _ _ h => h) (Or.inl ⟨by kernel_rfl, ?_⟩) hHeld ?_
    rotate_left
    · intro w' hSw
      go_simp
      try with_reducible rfl
    try simp only [Act.put, List.getElem_toArray, List.getElem_cons_succ, List.getElem_cons_zero, List.setIfInBounds_toArray, List.set_cons_zero, List.set_cons_succ]
    refine wpAnyH_take (i := 19) (v := ?_) rfl (by kernel_rfl) (by kernel_rfl) (by kernel_rfl) (fun _ _ _ h => h) (Or.inl ⟨by kernel_rfl, ?_⟩) hHeld ?_
    rotate_left
    · intro w' hSw
      obtain ⟨y0, y1, y2, y3⟩ := KD.out w' hSw
      go_simp
      try with_reducible rfl
    try simp only [Act.put, List.getElem_toArray, List.getElem_cons_succ, List.getElem_cons_zero, List.setIfInBounds_toArray, List.set_cons_zero, List.set_cons_succ]
    refine wpAnyH_take (i := 20) (v := ?_) rfl (by kernel_rfl) (by kernel_rfl) (by kernel_rfl) (fun _ _ _ h => h) (Or.inl ⟨by kernel_rfl, ?_⟩) hHeld ?_
    rotate_left
    · intro w' hSw
      go_simp
      try with_reducible rfl
    try simp only [Act.put, List.getElem_toArray, List.getElem_cons_succ, List.getElem_cons_zero, List.setIfInBounds_toArray, List.set_cons_zero, List.set_cons_succ]
    refine wpAnyH_take (i := 21) (v := ?_) rfl (by kernel_rfl) (by kernel_rfl) (by kernel_rfl) (fun _ _ _ h => h) (Or.inl ⟨by kernel_rfl, ?_⟩) hHeld ?_
    rotate_left
    · intro w' hSw
      go_simp
      try with_reducible rfl
    try simp only [Act.put, List.getElem_toArray, List.getElem_cons_succ, List.getElem_cons_zero, List.setIfInBounds_toArray, List.set_cons_zero, List.set_cons_succ]
    refine wpAnyH_take (i := 22) (v := ?_) rfl (by kernel_rfl) (by kernel_rfl) (by kernel_rfl) (fun _ _ _ h => h) (Or.inl ⟨by kernel_rfl, ?_⟩) hHeld ?_
    rotate_left
    · intro w' hSw
      go_simp
      try with_reducible rfl
    try simp only [Act.put, List.getElem_toArray, List.getElem_cons_succ, List.getElem_cons_zero, List.setIfInBounds_toArray, List.set_cons_zero, List.set_cons_succ]
    refine wpAnyH_take (i := 23) (v := ?_) rfl (by kernel_rfl) (by kernel_rfl) (by kernel_rfl) (fun _ _ _ h => h) (Or.inl ⟨by kernel_rfl, ?_⟩) hHeld ?_
    rotate_left
    · intro w' hSw
      obtain ⟨y0, y1, y2, y3⟩ := KD.out w' hSw
      go_simp
      try with_reducible rfl
    try simp only [Act.put, List.getElem_toArray, List.getElem_cons_succ, List.getElem_cons_zero, List.setIfInBounds_toArray, List.set_cons_zero, List.set_cons_succ]
    refine wpAnyH_take (i := 24) (v := ?_) rfl (by kernel_rfl) (by kernel_rfl) (by kernel_rfl) (fun _ _ _ h => h) (Or.inl ⟨by kernel_rfl, ?_⟩) hHeld ?_
    rotate_left
    · intro w' hSw
      go_simp
      try with_reducible rfl
    try simp only [Act.put, List.getElem_toArray, List.getElem_cons_succ, List.getElem_cons_zero, List.setIfInBounds_toArray, List.set_cons_zero, List.set_cons_succ]
    refine wpAnyH_take (i := 25) (v := ?_) rfl (by kernel_rfl) (by kernel_rfl) (by kernel_rfl) (fun _ _ _ h => h) (Or.inl ⟨by kernel_rfl, ?_⟩) hHeld ?_
    rotate_left
    · intro w' hSw
      obtain ⟨y0, y1, y2, y3⟩ := KD.out w' hSw
      go_simp
      try with_reducible rfl
    try simp only [Act.put, List.getElem_toArray, List.getElem_cons_succ, List.getElem_cons_zero, List.setIfInBounds_toArray, List.set_cons_zero, List.set_cons_succ]
    refine wpAnyH_take (i := 26) (v := ?_) rfl (by kernel_rfl) (by kernel_rfl) (by kernel_rfl) (fun _ _ _ h => h) (Or.inl ⟨by kernel_rfl, ?_⟩) hHeld ?_
    rotate_left
    · intro w' hSw
      go_simp
      try with_reducible rfl
    try simp only [Act.put, List.getElem_toArray, List.getElem_cons_succ, List.getElem_cons_zero, List.setIfInBounds_toArray, List.set_cons_zero, List.set_cons_succ]
    refine wpAnyH_take (i := 27) (v := ?_) rfl (by kernel_rfl) (by kernel_rfl) (by kernel_rfl) (fun _ _ _ h => h) (Or.inl ⟨by kernel_rfl, ?_⟩) hHeld ?_
    rotate_left
    · intro w' hSw
      obtain ⟨y0, y1, y2, y3⟩ := KD.out w' hSw
      go_simp
      try with_reducible rfl
    try simp only [Act.put, List.getElem_toArray, List.getElem_cons_succ, List.getElem_cons_zero, List.setIfInBounds_toArray, List.set_cons_zero, List.set_cons_succ]
    refine wpAnyH_take (i := 28) (v := ?_) rfl (by kernel_rfl) (by kernel_rfl) (by kernel_rfl) (fun _ _ _ h => h) (Or.inl ⟨by kernel_rfl, ?_⟩) hHeld ?_
    rotate_left
    · intro w' hSw
      go_simp
      try with_reducible rfl
    try simp only [Act.put, List.getElem_toArray, List.getElem_cons_succ, List.getElem_cons_zero, List.setIfInBounds_toArray, List.set_cons_zero, List.set_cons_succ]
    refine wpAnyH_take (i := 29) (v := ?_) rfl (by kernel_rfl) (by kernel_rfl) (by kernel_rfl) (fun _ _ _ h => h) (Or.inl ⟨by kernel_rfl, ?_⟩) hHeld ?_
    rotate_left
    · intro w' hSw
      go_simp
      try with_reducible rfl
    try simp only [Act.put, List.getElem_toArray, List.getElem_cons_succ, List.getElem_cons_zero, List.setIfInBounds_toArray, List.set_cons_zero, List.set_cons_succ]
    refine wpAnyH_take (i := 30) (v := ?_) rfl (by kernel_rfl) (by kernel_rfl) (by kernel_rfl) (fun _ _ _ h => h) (Or.inl ⟨by kernel_rfl, ?_⟩) hHeld ?_
    rotate_left
    · intro w' hSw
      go_simp
      try with_reducible rfl
    try simp only [Act.put, List.getElem_toArray, List.getElem_cons_succ, List.getElem_cons_zero, List.setIfInBounds_toArray, List.set_cons_zero, List.set_cons_succ]
    refine wpAnyH_take (i := 31) (v := ?_) rfl (by kernel_rfl) (by kernel_rfl) (by kernel_rfl) (fun _ _ _ h => h) (Or.inl ⟨by kernel_rfl, ?_⟩) hHeld ?_
    rotate_left
    · intro w' hSw
      go_simp
      try with_reducible rfl
    try simp only [Act.put, List.getElem_toArray, List.getElem_cons_succ, List.getElem_cons_zero, List.setIfInBounds_toArray, List.set_cons_zero, List.set_cons_succ]
    refine wpAnyH_take (i := 32) (v := ?_) rfl (by kernel_rfl) (by kernel_rfl) (by kernel_rfl) (fun _ _ _ h => h) (Or.inl ⟨by kernel_rfl, ?_⟩) hHeld ?_
    rotate_left
    · intro w' hSw
      obtain ⟨y0, y1, y2, y3⟩ := KD.out w' hSw
      go_simp
      try with_reducible rfl
    try simp only [Act.put, List.getElem_toArray, List.getElem_cons_succ, List.getElem_cons_zero, List.setIfInBounds_toArray, List.set_cons_zero, List.set_cons_succ]
    refine wpAnyH_ready (rs := [33]) (by kernel_rfl) (by simp) ?_
    refine AllReadyH.cons rfl (fun K hK => ?_) AllReadyH.nil
    rw [if_pos (by kernel_rfl)]
    go_wp2_with (go_at_call 29; refine (SX).mono ?_; rintro e w4 ⟨rfl, f4⟩)
    refine hK.out _ _ ((Fr.refl [] w2).drew.trans f4) (fun hHeld => ?_)
    clear hK K
    try simp only [Act.put, List.getElem_toArray, List.getElem_cons_succ, List.getElem_cons_zero, List.setIfInBounds_toArray, List.set_cons_zero, List.set_cons_succ]
    have F4 := hidI ((Fr.refl [] w2).drew.trans f4)
    refine wpAnyH_take (i := 34) (v := ?_) rfl (by kernel_rfl) (by kernel_rfl) (by kernel_rfl) (fun _ _ _ h => h) (Or.inl ⟨by kernel_rfl, ?_⟩) hHeld ?_
    rotate_left
    · intro w' hSw
      go_simp
      try with_reducible rfl
    try simp only [Act.put, List.getElem_toArray, List.getElem_cons_succ, List.getElem_cons_zero, List.setIfInBounds_toArray, List.set_cons_zero, List.set_cons_succ]
    refine wpAnyH_take (i := 35) (v := ?_) rfl (by kernel_rfl) (by kernel_rfl) (by kernel_rfl) (fun _ _ _ h => h) (Or.inl ⟨by kernel_rfl, ?_⟩) hHeld ?_
    rotate_left
    · intro w' hSw
      go_simp
      try with_reducible rfl
    try simp only [Act.put, List.getElem_toArray, List.getElem_cons_succ, List.getElem_cons_zero, List.setIfInBounds_toArray, List.set_cons_zero, List.set_cons_succ]
    refine wpAnyH_take (i := 36) (v := ?_) rfl (by kernel_rfl) (by kernel_rfl) (by kernel_rfl) (fun _ _ _ h => h) (Or.inl ⟨by kernel_rfl, ?_⟩) hHeld ?_
    rotate_left
    · intro w' hSw
      go_simp
      try with_reducible rfl
    try simp only [Act.put, List.getElem_toArray, List.getElem_cons_succ, List.getElem_cons_zero, List.setIfInBounds_toArray, List.set_cons_zero, List.set_cons_succ]
    refine wpAnyH_done (by kernel_rfl) ?_ _
    go_wp2_with fail
    go_ret
    exact ⟨rfl, hidI ⟨x2, m, hmb, X2.out.quiet F4.out, I2.out.le (by omega)⟩⟩
end
end Go.Proofs.YtopaeomjndblkaaGreat

