/-
  PoolDoes: what does lends, and what Change makes of the model.
-/
import Derived.Test.YtopaeomjndblkaaGreatW11Z
import Derived.Test.YtopaeomjndblkaaGreatW05Z
namespace Go.Proofs.YtopaeomjndblkaaGreat
open Go.RowKit Go.Maps

section
variable {w0 w : World} {rg : Nat} {x : Po} {m : Mo} {pages most : Nat} {J : Int}
theorem Iv.hdle (I : Iv pages most J x m.R m.hs) (hJ : J ≤ 1000) : ∀ f ∈ x.fs, f.hd < 1000000 := fun f hf => by
  have h1 := I.hb _ (List.mem_of_getElem? (I.hh.hf f hf))
  omega
theorem phold_busy (h : Pd w0 w rg x m) (I : Iv pages most J x m.R m.hs) (hJ : J ≤ 1000) {q : Nat} (hq : q < x.pages) (hb : Busy x q) : Calls Tryz.prog 81 #[.pointer (some ⟨x.pp, 0, none⟩), .int .i64 (q : Int)] w fun e w' => e = .returned (.int .i64 9) ∧ Fr [] w w' := by
  refine (hold_any h.rig.po hq (I.hdle hJ)).mono ?_
  rintro e w' (⟨h1, _, h3⟩ | ⟨_, f, x', j, _, F, _⟩)
  · exact ⟨h1, h3⟩
  · exact (hb.fnd F).elim
theorem phold_fine (h : Pd w0 w rg x m) (I : Iv pages most J x m.R m.hs) (hJ : J ≤ 1000) {q : Nat} (hq : q < x.pages) (hb : ¬ Busy x q) : Calls Tryz.prog 81 #[.pointer (some ⟨x.pp, 0, none⟩), .int .i64 (q : Int)] w fun e w' => e = .returned (.int .i64 0) ∧ Hid (∃ x' k, m.hs[q]? = some k ∧ 0 ≤ k ∧ k ≤ J ∧ Pd w0 w' rg x' m ∧ Iv pages most (J + 1) x' m.R (m.hs.set q (k + 1)) ∧ Fr x.own w w') := by
  refine (hold_any h.rig.po hq (I.hdle hJ)).mono ?_
  rintro e w' (⟨_, h2, _⟩ | ⟨rfl, f, x', j, st, F, hj⟩)
  · exact (hb h2).elim
  · have A := (F.alike I.nod)
    have K := F.kin
    have hn' : ((ids x'.fs).map (·.1)).Nodup := by
      rw [← set_pgs (f' := { f with hd := f.hd + 1 }) hj rfl]
      exact st.at'.nod
    have I2 := I.fnd F (by rw [← I.pg]; exact hq) hn'
    have hk := I2.hh.hf f (List.mem_of_getElem? hj)
    have e := A.2.2
    subst e
    have hkb := I.hb _ (List.mem_of_getElem? hk)
    have I3 := I2.held hj (k := f.hd + 1) (J' := J + 1) (by omega) (by omega) (by omega)
    exact ⟨rfl, hidI ⟨_, f.hd, hk, hkb.1, hkb.2, h.step st (h.rig.step st K.d K.p A.1.2.2.2.1) A.1.2.2.2.1, I3, st.fr⟩⟩
/-- Leave of a page that is not held. -/
theorem pleave_not (h : Pd w0 w rg x m) (I : Iv pages most J x m.R m.hs) {q : Nat} (hq : q < x.pages) (hk : m.hs[q]? = some 0) : Calls Tryz.prog 82 #[.pointer (some ⟨x.pp, 0, none⟩), .int .i64 (q : Int)] w fun e w' => e = .returned (.bool false) ∧ Fr [] w w' :=
  leave_not h.rig.po hq (fun f hf e => by
    have h1 := I.hh.hf f hf
    rw [e, hk] at h1
    exact (Option.some.inj h1).symm)
theorem pleave_yes (h : Pd w0 w rg x m) (I : Iv pages most J x m.R m.hs) {q : Nat} (hq : q < x.pages) {k : Int} (hk : m.hs[q]? = some k) (k0 : 0 < k) : Calls Tryz.prog 82 #[.pointer (some ⟨x.pp, 0, none⟩), .int .i64 (q : Int)] w fun e w' => e = .returned (.bool true) ∧ Hid (∃ x', Pd w0 w' rg x' m ∧ Iv pages most (J + 1) x' m.R (m.hs.set q (k - 1)) ∧ Fr x.own w w') := by
  have hin : q ∈ (ids x.fs).map (·.1) := by
    by_cases e : q ∈ (ids x.fs).map (·.1)
    · exact e
    · have h1 := I.hh.h0 q hq e
      rw [hk] at h1
      have := Option.some.inj h1
      omega
  obtain ⟨f, hf, e⟩ := ids_mem hin
  subst e
  obtain ⟨j, hj⟩ := List.mem_iff_getElem?.1 hf
  have h1 := I.hh.hf f hf
  rw [hk] at h1
  have ek : k = f.hd := Option.some.inj h1
  have hkb := I.hb _ (List.mem_of_getElem? hk)
  refine (leave_yes h.rig.po hj (by omega)).mono ?_
  rintro e w' ⟨rfl, st⟩
  have I3 := I.held hj (k := f.hd - 1) (J' := J + 1) (by omega) (by omega) (by omega)
  rw [ek]
  exact ⟨rfl, hidI ⟨_, h.step st (h.rig.step st rfl rfl rfl) rfl, I3, st.fr⟩⟩
end
section
variable {w0 w : World} {rg : Nat} {x : Po} {m : Mo} {pages most : Nat} {J : Int}
set_option maxHeartbeats 4000000 in
set_option maxRecDepth 100000 in
/-- 4: Hold. -/
theorem pdoes4 (h : Pd w0 w rg x m) (I : Iv pages most J x m.R m.hs) (hp : pages ≤ 1000) (d : DeedV) (ok : DeedOk w d) (hJ : J ≤ 1000) (PK : Hid (∀ w', Calls Tryz.prog 40 #[.int .i64 d.kind, .int .i64 8] w' fun e w'' => e = .returned (.int .i64 4) ∧ w'' = w')) :
    Calls Tryz.prog 18 #[.pointer (some ⟨rg, 0, none⟩), .pointer (some ⟨m.mb, 0, none⟩), .agg (deedV d).toArray, .int .i64 (most : Int)] w fun e w' => e = .returned (.bool true) ∧ Hid (PdJ w0 w' rg m.mb pages most (J + 1)) := by
  obtain ⟨db, hdb⟩ : ∃ db, w.heap.size = db := ⟨_, rfl⟩
  unfold deedV
  obtain ⟨pq, hpq⟩ : ∃ pq : Int, d.page = pq := ⟨_, rfl⟩
  rw [hpq]
  have f1 : Fr [] w (w.alloc (.cells #[.int .i64 d.kind, .int .i64 pq, .int .i64 d.blk, .int .i64 d.off, .slice d.a1 d.l1.length d.c1, .slice d.a2 d.l2.length d.c2, .int .i64 d.N, .bool d.odd] 44)) := (Fr.refl [] w).alloc _
  have h1 := heap_alloc_new w (.cells #[.int .i64 d.kind, .int .i64 pq, .int .i64 d.blk, .int .i64 d.off, .slice d.a1 d.l1.length d.c1, .slice d.a2 d.l2.length d.c2, .int .i64 d.N, .bool d.odd] 44)
  rw [hdb] at h1
  obtain ⟨w1, hw1⟩ : ∃ w1, w.alloc (.cells #[.int .i64 d.kind, .int .i64 pq, .int .i64 d.blk, .int .i64 d.off, .slice d.a1 d.l1.length d.c1, .slice d.a2 d.l2.length d.c2, .int .i64 d.N, .bool d.odd] 44) = w1 := ⟨_, rfl⟩
  rw [hw1] at f1 h1
  have hdl : db < w1.heap.size := (Array.getElem?_eq_some_iff.1 h1).1
  have hdn : db ∉ x.own ∧ db ∉ m.own := by
    rw [← hdb]
    exact ⟨fun e => by have := h.lt _ (List.mem_cons_of_mem _ (List.mem_cons_of_mem _ e)); omega, fun e => by have := (h.mo.lt _ e).2; omega⟩
  have X1 := hidI (h.quiet f1)
  have HI := hidI I
  have D1 := hidI h1
  have HO := hidI (And.intro ok f1)
  have HQ := hidI hpq
  have d0 : w1.cell? ⟨db, 0, none⟩ = some (.int .i64 d.kind) := cell_of_row w1 db 0 _ _ _ h1
  have d1 : w1.cell? ⟨db, 1, none⟩ = some (.int .i64 pq) := cell_of_row w1 db 1 _ _ _ h1
  obtain ⟨mb, hmb⟩ : ∃ mb, m.mb = mb := ⟨_, rfl⟩
  have m0 : w1.cell? ⟨mb, 0, none⟩ = some (.slice m.ad pages m.c) := by
    rw [← hmb, ← I.rl]
    exact X1.out.mo.c0
  have hxp := I.pg
  rw [hmb]
  clear h I f1 h1 hpq ok
  go_enter Tryz.func18, Tryz.ntmps18
  by_cases hneg : pq < 0
  · have q0 : ¬ 0 ≤ pq := by omega
    have hout : pq < 0 ∨ (x.pages : Int) ≤ pq := Or.inl hneg
    clear hneg
    have KC : Hid (∀ w', Fr [] w1 w' → w'.cell? ⟨rg, 2, none⟩ = some (.pointer (some ⟨x.pp, 0, none⟩)) ∧ w'.cell? ⟨db, 1, none⟩ = some (.int .i64 pq)) := hidI (fun w' f => ⟨(X1.out.quiet f).p, cell_of_row w' db 1 _ _ _ (f.same (by simp) D1.out)⟩)
    have PX := hold_out (X1.out.quiet (Fr.refl [] w1).drew).rig.po.box (k := pq) hout
    go_upto_region 36 with (go_at_call 40; refine (PK.out _).mono ?_; rintro e wz ⟨rfl, hz⟩; rw [hz]; clear hz)
    go_region_held3 (fun w' => w'.cell? ⟨rg, 2, none⟩ = some (.pointer (some ⟨x.pp, 0, none⟩)) ∧ w'.cell? ⟨db, 1, none⟩ = some (.int .i64 pq)) (first | exact KC.out _ (Fr.refl [] w1).drew | exact KC.out _ (Fr.refl [] w1) | exact KK) ((first
      | (go_at_call 81; refine PX.mono ?_; rintro e w2 ⟨rfl, hz⟩; have F2 : Hid (Fr [] w1 w2) := hidI (by rw [hz]; exact (Fr.refl [] w1).drew); have KK := KC.out _ F2.out; clear hz)))
    go_wp2_with fail
    go_ret
    exact ⟨rfl, hidI ⟨x, m, hmb, X1.out.quiet F2.out, HI.out.le (by omega)⟩⟩
  by_cases hhi : (pages : Int) ≤ pq
  · have q0 : 0 ≤ pq := by omega
    have q1 : ¬ pq < (pages : Int) := by omega
    have hout : pq < 0 ∨ (x.pages : Int) ≤ pq := Or.inr (by rw [hxp]; exact hhi)
    clear hhi hneg
    have KC : Hid (∀ w', Fr [] w1 w' → w'.cell? ⟨rg, 2, none⟩ = some (.pointer (some ⟨x.pp, 0, none⟩)) ∧ w'.cell? ⟨db, 1, none⟩ = some (.int .i64 pq)) := hidI (fun w' f => ⟨(X1.out.quiet f).p, cell_of_row w' db 1 _ _ _ (f.same (by simp) D1.out)⟩)
    have PX := hold_out (X1.out.quiet (Fr.refl [] w1).drew).rig.po.box (k := pq) hout
    go_upto_region 36 with (go_at_call 40; refine (PK.out _).mono ?_; rintro e wz ⟨rfl, hz⟩; rw [hz]; clear hz)
    go_region_held3 (fun w' => w'.cell? ⟨rg, 2, none⟩ = some (.pointer (some ⟨x.pp, 0, none⟩)) ∧ w'.cell? ⟨db, 1, none⟩ = some (.int .i64 pq)) (first | exact KC.out _ (Fr.refl [] w1).drew | exact KC.out _ (Fr.refl [] w1) | exact KK) ((first
      | (go_at_call 81; refine PX.mono ?_; rintro e w2 ⟨rfl, hz⟩; have F2 : Hid (Fr [] w1 w2) := hidI (by rw [hz]; exact (Fr.refl [] w1).drew); have KK := KC.out _ F2.out; clear hz)))
    go_wp2_with fail
    go_ret
    exact ⟨rfl, hidI ⟨x, m, hmb, X1.out.quiet F2.out, HI.out.le (by omega)⟩⟩
  obtain ⟨q, rfl⟩ : ∃ q : Nat, pq = (q : Int) := ⟨pq.toNat, by omega⟩
  have q0 : (0 : Int) ≤ (q : Int) := by omega
  have q1 : (q : Int) < (pages : Int) := by omega
  have hqp : q < pages := by omega
  obtain ⟨bz, hbz, FX0⟩ := X1.out.full HI.out hp hqp
  rw [hmb] at FX0
  have FX := hidI FX0
  clear FX0 hhi hneg
  cases bz with
  | true =>
    have hB : Busy x q := hbz.1 rfl
    clear hbz
    have KC : Hid (∀ w', Fr [] w1 w' → w'.cell? ⟨rg, 2, none⟩ = some (.pointer (some ⟨x.pp, 0, none⟩)) ∧ w'.cell? ⟨db, 1, none⟩ = some (.int .i64 (q : Int))) := hidI (fun w' f => ⟨(X1.out.quiet f).p, cell_of_row w' db 1 _ _ _ (f.same (by simp) D1.out)⟩)
    have PX := phold_busy (X1.out.quiet (Fr.refl [] w1).drew) HI.out hJ (by rw [hxp]; exact hqp) hB
    go_upto_region 36 with (first
      | (go_at_call 40; refine (PK.out _).mono ?_; rintro e wz ⟨rfl, hz⟩; rw [hz]; clear hz)
      | (go_at_call 76; refine (FX.out _ (Fr.refl [] w1)).mono ?_; rintro e wz ⟨rfl, hz⟩; rw [hz]; clear hz))
    go_region_held3 (fun w' => w'.cell? ⟨rg, 2, none⟩ = some (.pointer (some ⟨x.pp, 0, none⟩)) ∧ w'.cell? ⟨db, 1, none⟩ = some (.int .i64 (q : Int))) (first | exact KC.out _ (Fr.refl [] w1).drew | exact KC.out _ (Fr.refl [] w1) | exact KK) ((first
      | (go_at_call 81; refine PX.mono ?_; rintro e w2 ⟨rfl, f2⟩; have F2 : Hid (Fr [] w1 w2) := hidI ((Fr.refl [] w1).drew.trans f2); have KK := KC.out _ F2.out; clear f2)))
    go_wp2_with fail
    go_ret
    exact ⟨rfl, hidI ⟨x, m, hmb, X1.out.quiet F2.out, HI.out.le (by omega)⟩⟩
  | false =>
    have hB : ¬ Busy x q := fun e => by have := hbz.2 e; cases this
    clear hbz
    have KC : Hid (∀ w', Fr [] w1 w' → w'.cell? ⟨rg, 2, none⟩ = some (.pointer (some ⟨x.pp, 0, none⟩)) ∧ w'.cell? ⟨db, 1, none⟩ = some (.int .i64 (q : Int))) := hidI (fun w' f => ⟨(X1.out.quiet f).p, cell_of_row w' db 1 _ _ _ (f.same (by simp) D1.out)⟩)
    have XD := hidI (X1.out.quiet (Fr.refl [] w1).drew)
    have DD := hidI ((Fr.refl [] w1).drew.same (by simp) D1.out)
    have PX := phold_fine XD.out HI.out hJ (by rw [hxp]; exact hqp) hB
    go_upto_region 36 with (first
      | (go_at_call 40; refine (PK.out _).mono ?_; rintro e wz ⟨rfl, hz⟩; rw [hz]; clear hz)
      | (go_at_call 76; refine (FX.out _ (Fr.refl [] w1)).mono ?_; rintro e wz ⟨rfl, hz⟩; rw [hz]; clear hz))
    go_region_held3 (fun w' => w'.cell? ⟨rg, 2, none⟩ = some (.pointer (some ⟨x.pp, 0, none⟩)) ∧ w'.cell? ⟨db, 1, none⟩ = some (.int .i64 (q : Int))) (first | exact KC.out _ (Fr.refl [] w1).drew | exact KC.out _ (Fr.refl [] w1) | exact KK) ((first
      | (go_at_call 81; refine PX.mono ?_; rintro e w2 ⟨rfl, P2⟩; have KK : w2.cell? ⟨rg, 2, none⟩ = some (.pointer (some ⟨x.pp, 0, none⟩)) ∧ w2.cell? ⟨db, 1, none⟩ = some (.int .i64 (q : Int)) := (by
          obtain ⟨x2, k2, _, _, _, Y2, _, f2⟩ := P2.out
          exact ⟨by have h9 := f2.same (fun e => XD.out.rig.ne (List.mem_cons_of_mem _ e)) XD.out.rig.box; exact cell_of_row w2 rg 2 _ _ _ h9, cell_of_row w2 db 1 _ _ _ (f2.same hdn.1 DD.out)⟩))))
    obtain ⟨x2, k, hk, k0, kJ, Y2, I2, f2⟩ := P2.out
    have D2 := hidI (f2.same hdn.1 DD.out)
    have X2 := hidI Y2
    have HI2 := hidI I2
    clear KK PX KC XD DD P2 Y2 I2 f2
    have z1 : w2.cell? ⟨mb, 1, none⟩ = some (.slice (some ⟨m.hb, 0, none⟩) pages pages) := by
      rw [← hmb, ← HI.out.hl]
      exact X2.out.mo.c1
    have z2 : w2.cell? ⟨m.hb, q, none⟩ = some (.int .i64 k) := X2.out.mo.hc hk
    have z3 : w2.frozen? ⟨m.hb, q, none⟩ = false := X2.out.mo.hz q
    have z4 : w2.cell? ⟨db, 1, none⟩ = some (.int .i64 (q : Int)) := cell_of_row w2 db 1 _ _ _ D2.out
    have e1 : IntKind.i64.wrap (k + 1) = k + 1 := wrapI _ (by omega) (by omega)
    clear d0 d1 m0
    go_upto_region 40 with fail
    go_region_law fail
    all_goals
      go_wp2_with fail
      go_ret
      first
        | exact ⟨rfl, hidI ⟨x2, { m with hs := m.hs.set q (k + 1) }, hmb, (X2.out.setH q (k + 1)).quiet (Fr.refl [] _).drew, HI2.out⟩⟩
        | exact ⟨rfl, hidI ⟨x2, { m with hs := m.hs.set q (k + 1) }, hmb, X2.out.setH q (k + 1), HI2.out⟩⟩
set_option maxHeartbeats 4000000 in
set_option maxRecDepth 100000 in
/-- 5: Leave. -/
theorem pdoes5 (h : Pd w0 w rg x m) (I : Iv pages most J x m.R m.hs) (hp : pages ≤ 1000) (d : DeedV) (ok : DeedOk w d) (hJ : J ≤ 1000) (PK : Hid (∀ w', Calls Tryz.prog 40 #[.int .i64 d.kind, .int .i64 8] w' fun e w'' => e = .returned (.int .i64 5) ∧ w'' = w')) :
    Calls Tryz.prog 18 #[.pointer (some ⟨rg, 0, none⟩), .pointer (some ⟨m.mb, 0, none⟩), .agg (deedV d).toArray, .int .i64 (most : Int)] w fun e w' => e = .returned (.bool true) ∧ Hid (PdJ w0 w' rg m.mb pages most (J + 1)) := by
  obtain ⟨db, hdb⟩ : ∃ db, w.heap.size = db := ⟨_, rfl⟩
  unfold deedV
  obtain ⟨pq, hpq⟩ : ∃ pq : Int, d.page = pq := ⟨_, rfl⟩
  rw [hpq]
  have f1 : Fr [] w (w.alloc (.cells #[.int .i64 d.kind, .int .i64 pq, .int .i64 d.blk, .int .i64 d.off, .slice d.a1 d.l1.length d.c1, .slice d.a2 d.l2.length d.c2, .int .i64 d.N, .bool d.odd] 44)) := (Fr.refl [] w).alloc _
  have h1 := heap_alloc_new w (.cells #[.int .i64 d.kind, .int .i64 pq, .int .i64 d.blk, .int .i64 d.off, .slice d.a1 d.l1.length d.c1, .slice d.a2 d.l2.length d.c2, .int .i64 d.N, .bool d.odd] 44)
  rw [hdb] at h1
  obtain ⟨w1, hw1⟩ : ∃ w1, w.alloc (.cells #[.int .i64 d.kind, .int .i64 pq, .int .i64 d.blk, .int .i64 d.off, .slice d.a1 d.l1.length d.c1, .slice d.a2 d.l2.length d.c2, .int .i64 d.N, .bool d.odd] 44) = w1 := ⟨_, rfl⟩
  rw [hw1] at f1 h1
  have hdl : db < w1.heap.size := (Array.getElem?_eq_some_iff.1 h1).1
  have hdn : db ∉ x.own ∧ db ∉ m.own := by
    rw [← hdb]
    exact ⟨fun e => by have := h.lt _ (List.mem_cons_of_mem _ (List.mem_cons_of_mem _ e)); omega, fun e => by have := (h.mo.lt _ e).2; omega⟩
  have X1 := hidI (h.quiet f1)
  have HI := hidI I
  have D1 := hidI h1
  have HO := hidI (And.intro ok f1)
  have HQ := hidI hpq
  have d0 : w1.cell? ⟨db, 0, none⟩ = some (.int .i64 d.kind) := cell_of_row w1 db 0 _ _ _ h1
  have d1 : w1.cell? ⟨db, 1, none⟩ = some (.int .i64 pq) := cell_of_row w1 db 1 _ _ _ h1
  obtain ⟨mb, hmb⟩ : ∃ mb, m.mb = mb := ⟨_, rfl⟩
  have m0 : w1.cell? ⟨mb, 0, none⟩ = some (.slice m.ad pages m.c) := by
    rw [← hmb, ← I.rl]
    exact X1.out.mo.c0
  have hxp := I.pg
  rw [hmb]
  clear h I f1 h1 hpq ok
  go_enter Tryz.func18, Tryz.ntmps18
  by_cases hneg : pq < 0
  · have q0 : ¬ 0 ≤ pq := by omega
    have hout : pq < 0 ∨ (x.pages : Int) ≤ pq := Or.inl hneg
    clear hneg
    have KC : Hid (∀ w', Fr [] w1 w' → w'.cell? ⟨rg, 2, none⟩ = some (.pointer (some ⟨x.pp, 0, none⟩)) ∧ w'.cell? ⟨db, 1, none⟩ = some (.int .i64 pq)) := hidI (fun w' f => ⟨(X1.out.quiet f).p, cell_of_row w' db 1 _ _ _ (f.same (by simp) D1.out)⟩)
    go_upto_region 42 with (go_at_call 40; refine (PK.out _).mono ?_; rintro e wz ⟨rfl, hz⟩; rw [hz]; clear hz)
    go_quiet (fail)
    obtain ⟨w3, hw3⟩ : ∃ w3, w1.drewN nq = w3 := ⟨_, rfl⟩
    have f3 : Fr [] w1 w3 := by rw [← hw3]; exact (Fr.refl [] w1).drewN nq
    rw [hw3]
    have PX := leave_out (X1.out.quiet (f3.trans (Fr.refl [] w3).drew)).rig.po.box (k := pq) hout
    clear d0 d1 m0 hw3
    go_upto_region 43 with fail
    go_region_held3 (fun w' => w'.cell? ⟨rg, 2, none⟩ = some (.pointer (some ⟨x.pp, 0, none⟩)) ∧ w'.cell? ⟨db, 1, none⟩ = some (.int .i64 pq)) (first | exact KC.out _ (f3.trans (Fr.refl [] w3).drew) | exact KC.out _ f3 | exact KK) ((first
      | (go_at_call 82; refine PX.mono ?_; rintro e w2 ⟨rfl, hz⟩; have F2 : Hid (Fr [] w1 w2) := hidI (by rw [hz]; exact f3.trans (Fr.refl [] w3).drew); have KK := KC.out _ F2.out; clear hz)))
    go_wp2_with fail
    go_ret
    exact ⟨rfl, hidI ⟨x, m, hmb, X1.out.quiet F2.out, HI.out.le (by omega)⟩⟩
  by_cases hhi : (pages : Int) ≤ pq
  · have q0 : 0 ≤ pq := by omega
    have q1 : ¬ pq < (pages : Int) := by omega
    have hout : pq < 0 ∨ (x.pages : Int) ≤ pq := Or.inr (by rw [hxp]; exact hhi)
    clear hhi hneg
    have KC : Hid (∀ w', Fr [] w1 w' → w'.cell? ⟨rg, 2, none⟩ = some (.pointer (some ⟨x.pp, 0, none⟩)) ∧ w'.cell? ⟨db, 1, none⟩ = some (.int .i64 pq)) := hidI (fun w' f => ⟨(X1.out.quiet f).p, cell_of_row w' db 1 _ _ _ (f.same (by simp) D1.out)⟩)
    go_upto_region 42 with (go_at_call 40; refine (PK.out _).mono ?_; rintro e wz ⟨rfl, hz⟩; rw [hz]; clear hz)
    go_quiet (fail)
    obtain ⟨w3, hw3⟩ : ∃ w3, w1.drewN nq = w3 := ⟨_, rfl⟩
    have f3 : Fr [] w1 w3 := by rw [← hw3]; exact (Fr.refl [] w1).drewN nq
    rw [hw3]
    have PX := leave_out (X1.out.quiet (f3.trans (Fr.refl [] w3).drew)).rig.po.box (k := pq) hout
    clear d0 d1 m0 hw3
    go_upto_region 43 with fail
    go_region_held3 (fun w' => w'.cell? ⟨rg, 2, none⟩ = some (.pointer (some ⟨x.pp, 0, none⟩)) ∧ w'.cell? ⟨db, 1, none⟩ = some (.int .i64 pq)) (first | exact KC.out _ (f3.trans (Fr.refl [] w3).drew) | exact KC.out _ f3 | exact KK) ((first
      | (go_at_call 82; refine PX.mono ?_; rintro e w2 ⟨rfl, hz⟩; have F2 : Hid (Fr [] w1 w2) := hidI (by rw [hz]; exact f3.trans (Fr.refl [] w3).drew); have KK := KC.out _ F2.out; clear hz)))
    go_wp2_with fail
    go_ret
    exact ⟨rfl, hidI ⟨x, m, hmb, X1.out.quiet F2.out, HI.out.le (by omega)⟩⟩
  obtain ⟨q, rfl⟩ : ∃ q : Nat, pq = (q : Int) := ⟨pq.toNat, by omega⟩
  have q0 : (0 : Int) ≤ (q : Int) := by omega
  have q1 : (q : Int) < (pages : Int) := by omega
  have hqp : q < pages := by omega
  obtain ⟨bz, hbz, FX0⟩ := X1.out.full HI.out hp hqp
  rw [hmb] at FX0
  have FX := hidI FX0
  clear FX0 hhi hneg
  cases bz with
  | true =>
    have hB : Busy x q := hbz.1 rfl
    clear hbz
    clear hB
    have KC : Hid (∀ w', Fr [] w1 w' → w'.cell? ⟨rg, 2, none⟩ = some (.pointer (some ⟨x.pp, 0, none⟩)) ∧ w'.cell? ⟨db, 1, none⟩ = some (.int .i64 (q : Int))) := hidI (fun w' f => ⟨(X1.out.quiet f).p, cell_of_row w' db 1 _ _ _ (f.same (by simp) D1.out)⟩)
    have m1 : w1.cell? ⟨mb, 1, none⟩ = some (.slice (some ⟨m.hb, 0, none⟩) pages pages) := by
      rw [← hmb, ← HI.out.hl]
      exact X1.out.mo.c1
    obtain ⟨k, hk⟩ : ∃ k, m.hs[q]? = some k := ⟨_, List.getElem?_eq_getElem (by rw [HI.out.hl]; exact hqp)⟩
    have z2 : w1.cell? ⟨m.hb, q, none⟩ = some (.int .i64 k) := X1.out.mo.hc hk
    have hkb := HI.out.hb _ (List.mem_of_getElem? hk)
    by_cases hk0 : 0 < k
    · go_upto_region 42 with (first
        | (go_at_call 40; refine (PK.out _).mono ?_; rintro e wz ⟨rfl, hz⟩; rw [hz]; clear hz)
        | (go_at_call 76; refine (FX.out _ (Fr.refl [] w1)).mono ?_; rintro e wz ⟨rfl, hz⟩; rw [hz]; clear hz))
      go_quiet (fail)
      obtain ⟨w3, hw3⟩ : ∃ w3, w1.drewN nq = w3 := ⟨_, rfl⟩
      have f3 : Fr [] w1 w3 := by rw [← hw3]; exact (Fr.refl [] w1).drewN nq
      rw [hw3]
      have XD := hidI (X1.out.quiet (f3.trans (Fr.refl [] w3).drew))
      have DD := hidI ((f3.trans (Fr.refl [] w3).drew).same (by simp) D1.out)
      have PX := pleave_yes XD.out HI.out (by rw [hxp]; exact hqp) hk hk0
      clear d0 d1 m0 hw3 m1 z2
      go_upto_region 43 with fail
      go_region_held3 (fun w' => w'.cell? ⟨rg, 2, none⟩ = some (.pointer (some ⟨x.pp, 0, none⟩)) ∧ w'.cell? ⟨db, 1, none⟩ = some (.int .i64 (q : Int))) (first | exact KC.out _ (f3.trans (Fr.refl [] w3).drew) | exact KC.out _ f3 | exact KK) ((first
        | (go_at_call 82; refine PX.mono ?_; rintro e w2 ⟨rfl, P2⟩; have KK : w2.cell? ⟨rg, 2, none⟩ = some (.pointer (some ⟨x.pp, 0, none⟩)) ∧ w2.cell? ⟨db, 1, none⟩ = some (.int .i64 (q : Int)) := (by
            obtain ⟨x2, Y2, _, f2⟩ := P2.out
            exact ⟨by have h9 := f2.same (fun e => XD.out.rig.ne (List.mem_cons_of_mem _ e)) XD.out.rig.box; exact cell_of_row w2 rg 2 _ _ _ h9, cell_of_row w2 db 1 _ _ _ (f2.same hdn.1 DD.out)⟩))))
      obtain ⟨x2, Y2, I2, f2⟩ := P2.out
      have D2 := hidI (f2.same hdn.1 DD.out)
      have X2 := hidI Y2
      have HI2 := hidI I2
      clear KK PX KC XD DD P2 Y2 I2 f2
      have z1 : w2.cell? ⟨mb, 1, none⟩ = some (.slice (some ⟨m.hb, 0, none⟩) pages pages) := by
        rw [← hmb, ← HI.out.hl]
        exact X2.out.mo.c1
      have z2 : w2.cell? ⟨m.hb, q, none⟩ = some (.int .i64 k) := X2.out.mo.hc hk
      have z3 : w2.frozen? ⟨m.hb, q, none⟩ = false := X2.out.mo.hz q
      have z4 : w2.cell? ⟨db, 1, none⟩ = some (.int .i64 (q : Int)) := cell_of_row w2 db 1 _ _ _ D2.out
      have e1 : IntKind.i64.wrap (k - 1) = k - 1 := wrapI _ (by omega) (by omega)
      go_upto_region 46 with fail
      go_region_law fail
      all_goals
        go_wp2_with fail
        go_ret
        first
          | exact ⟨rfl, hidI ⟨x2, { m with hs := m.hs.set q (k - 1) }, hmb, (X2.out.setH q (k - 1)).quiet (Fr.refl [] _).drew, HI2.out⟩⟩
          | exact ⟨rfl, hidI ⟨x2, { m with hs := m.hs.set q (k - 1) }, hmb, X2.out.setH q (k - 1), HI2.out⟩⟩
    · have hk9 : k = 0 := by omega
      subst hk9
      go_upto_region 42 with (first
        | (go_at_call 40; refine (PK.out _).mono ?_; rintro e wz ⟨rfl, hz⟩; rw [hz]; clear hz)
        | (go_at_call 76; refine (FX.out _ (Fr.refl [] w1)).mono ?_; rintro e wz ⟨rfl, hz⟩; rw [hz]; clear hz))
      go_quiet (fail)
      obtain ⟨w3, hw3⟩ : ∃ w3, w1.drewN nq = w3 := ⟨_, rfl⟩
      have f3 : Fr [] w1 w3 := by rw [← hw3]; exact (Fr.refl [] w1).drewN nq
      rw [hw3]
      have XD := hidI (X1.out.quiet (f3.trans (Fr.refl [] w3).drew))
      have PX := pleave_not XD.out HI.out (by rw [hxp]; exact hqp) hk
      clear d0 d1 m0 hw3 m1 z2
      go_upto_region 43 with fail
      go_region_held3 (fun w' => w'.cell? ⟨rg, 2, none⟩ = some (.pointer (some ⟨x.pp, 0, none⟩)) ∧ w'.cell? ⟨db, 1, none⟩ = some (.int .i64 (q : Int))) (first | exact KC.out _ (f3.trans (Fr.refl [] w3).drew) | exact KC.out _ f3 | exact KK) ((first
        | (go_at_call 82; refine PX.mono ?_; rintro e w2 ⟨rfl, f2⟩; have F2 : Hid (Fr [] w1 w2) := hidI ((f3.trans (Fr.refl [] w3).drew).trans f2); have KK := KC.out _ F2.out; clear f2)))
      go_wp2_with fail
      go_ret
      exact ⟨rfl, hidI ⟨x, m, hmb, X1.out.quiet F2.out, HI.out.le (by omega)⟩⟩
  | false =>
    have hB : ¬ Busy x q := fun e => by have := hbz.2 e; cases this
    clear hbz
    clear hB
    have KC : Hid (∀ w', Fr [] w1 w' → w'.cell? ⟨rg, 2, none⟩ = some (.pointer (some ⟨x.pp, 0, none⟩)) ∧ w'.cell? ⟨db, 1, none⟩ = some (.int .i64 (q : Int))) := hidI (fun w' f => ⟨(X1.out.quiet f).p, cell_of_row w' db 1 _ _ _ (f.same (by simp) D1.out)⟩)
    have m1 : w1.cell? ⟨mb, 1, none⟩ = some (.slice (some ⟨m.hb, 0, none⟩) pages pages) := by
      rw [← hmb, ← HI.out.hl]
      exact X1.out.mo.c1
    obtain ⟨k, hk⟩ : ∃ k, m.hs[q]? = some k := ⟨_, List.getElem?_eq_getElem (by rw [HI.out.hl]; exact hqp)⟩
    have z2 : w1.cell? ⟨m.hb, q, none⟩ = some (.int .i64 k) := X1.out.mo.hc hk
    have hkb := HI.out.hb _ (List.mem_of_getElem? hk)
    by_cases hk0 : 0 < k
    · go_upto_region 42 with (first
        | (go_at_call 40; refine (PK.out _).mono ?_; rintro e wz ⟨rfl, hz⟩; rw [hz]; clear hz)
        | (go_at_call 76; refine (FX.out _ (Fr.refl [] w1)).mono ?_; rintro e wz ⟨rfl, hz⟩; rw [hz]; clear hz))
      go_quiet (fail)
      obtain ⟨w3, hw3⟩ : ∃ w3, w1.drewN nq = w3 := ⟨_, rfl⟩
      have f3 : Fr [] w1 w3 := by rw [← hw3]; exact (Fr.refl [] w1).drewN nq
      rw [hw3]
      have XD := hidI (X1.out.quiet (f3.trans (Fr.refl [] w3).drew))
      have DD := hidI ((f3.trans (Fr.refl [] w3).drew).same (by simp) D1.out)
      have PX := pleave_yes XD.out HI.out (by rw [hxp]; exact hqp) hk hk0
      clear d0 d1 m0 hw3 m1 z2
      go_upto_region 43 with fail
      go_region_held3 (fun w' => w'.cell? ⟨rg, 2, none⟩ = some (.pointer (some ⟨x.pp, 0, none⟩)) ∧ w'.cell? ⟨db, 1, none⟩ = some (.int .i64 (q : Int))) (first | exact KC.out _ (f3.trans (Fr.refl [] w3).drew) | exact KC.out _ f3 | exact KK) ((first
        | (go_at_call 82; refine PX.mono ?_; rintro e w2 ⟨rfl, P2⟩; have KK : w2.cell? ⟨rg, 2, none⟩ = some (.pointer (some ⟨x.pp, 0, none⟩)) ∧ w2.cell? ⟨db, 1, none⟩ = some (.int .i64 (q : Int)) := (by
            obtain ⟨x2, Y2, _, f2⟩ := P2.out
            exact ⟨by have h9 := f2.same (fun e => XD.out.rig.ne (List.mem_cons_of_mem _ e)) XD.out.rig.box; exact cell_of_row w2 rg 2 _ _ _ h9, cell_of_row w2 db 1 _ _ _ (f2.same hdn.1 DD.out)⟩))))
      obtain ⟨x2, Y2, I2, f2⟩ := P2.out
      have D2 := hidI (f2.same hdn.1 DD.out)
      have X2 := hidI Y2
      have HI2 := hidI I2
      clear KK PX KC XD DD P2 Y2 I2 f2
      have z1 : w2.cell? ⟨mb, 1, none⟩ = some (.slice (some ⟨m.hb, 0, none⟩) pages pages) := by
        rw [← hmb, ← HI.out.hl]
        exact X2.out.mo.c1
      have z2 : w2.cell? ⟨m.hb, q, none⟩ = some (.int .i64 k) := X2.out.mo.hc hk
      have z3 : w2.frozen? ⟨m.hb, q, none⟩ = false := X2.out.mo.hz q
      have z4 : w2.cell? ⟨db, 1, none⟩ = some (.int .i64 (q : Int)) := cell_of_row w2 db 1 _ _ _ D2.out
      have e1 : IntKind.i64.wrap (k - 1) = k - 1 := wrapI _ (by omega) (by omega)
      go_upto_region 46 with fail
      go_region_law fail
      all_goals
        go_wp2_with fail
        go_ret
        first
          | exact ⟨rfl, hidI ⟨x2, { m with hs := m.hs.set q (k - 1) }, hmb, (X2.out.setH q (k - 1)).quiet (Fr.refl [] _).drew, HI2.out⟩⟩
          | exact ⟨rfl, hidI ⟨x2, { m with hs := m.hs.set q (k - 1) }, hmb, X2.out.setH q (k - 1), HI2.out⟩⟩
    · have hk9 : k = 0 := by omega
      subst hk9
      go_upto_region 42 with (first
        | (go_at_call 40; refine (PK.out _).mono ?_; rintro e wz ⟨rfl, hz⟩; rw [hz]; clear hz)
        | (go_at_call 76; refine (FX.out _ (Fr.refl [] w1)).mono ?_; rintro e wz ⟨rfl, hz⟩; rw [hz]; clear hz))
      go_quiet (fail)
      obtain ⟨w3, hw3⟩ : ∃ w3, w1.drewN nq = w3 := ⟨_, rfl⟩
      have f3 : Fr [] w1 w3 := by rw [← hw3]; exact (Fr.refl [] w1).drewN nq
      rw [hw3]
      have XD := hidI (X1.out.quiet (f3.trans (Fr.refl [] w3).drew))
      have PX := pleave_not XD.out HI.out (by rw [hxp]; exact hqp) hk
      clear d0 d1 m0 hw3 m1 z2
      go_upto_region 43 with fail
      go_region_held3 (fun w' => w'.cell? ⟨rg, 2, none⟩ = some (.pointer (some ⟨x.pp, 0, none⟩)) ∧ w'.cell? ⟨db, 1, none⟩ = some (.int .i64 (q : Int))) (first | exact KC.out _ (f3.trans (Fr.refl [] w3).drew) | exact KC.out _ f3 | exact KK) ((first
        | (go_at_call 82; refine PX.mono ?_; rintro e w2 ⟨rfl, f2⟩; have F2 : Hid (Fr [] w1 w2) := hidI ((f3.trans (Fr.refl [] w3).drew).trans f2); have KK := KC.out _ F2.out; clear f2)))
      go_wp2_with fail
      go_ret
      exact ⟨rfl, hidI ⟨x, m, hmb, X1.out.quiet F2.out, HI.out.le (by omega)⟩⟩
end
end Go.Proofs.YtopaeomjndblkaaGreat

namespace Go.Proofs.YtopaeomjndblkaaGreat
open Go.RowKit Go.Maps

section
variable {w0 w w' : World} {rg : Nat} {x : Po} {m : Mo} {pages most : Nat} {J : Int}
/-- Blocks that are neither's are written. -/
theorem Pd.offL (h : Pd w0 w rg x m) {L : List Nat} (f : Fr L w w') (hL : ∀ g ∈ L, w0.heap.size ≤ g ∧ g ∉ m.own ∧ g ∉ rg :: x.pp :: x.own) : Pd w0 w' rg x m := by
  have hn : ∀ k ∈ rg :: x.pp :: x.own, k ∉ L := fun k hk e => (hL k e).2.2 hk
  refine ⟨h.rig.kept f (hn _ List.mem_cons_self) (fun k hk => hn k (List.mem_cons_of_mem _ hk)), h.mo.kept f (fun k hk e => (hL k e).2.1 hk), h.fr.then f (fun i hi hl => ?_), h.new, h.dis⟩
  have := (hL i hl).1
  omega
theorem pchange_busy (h : Pd w0 w rg x m) {q : Nat} (hq : q < x.pages) (hb : Busy x q) (off : Int) (a1 : Option Addr) (n1 c1 : Nat) (ad : Option Addr) (n c : Nat) (l : List UInt8) (hl : l.length = n) (hm : mayB off n = true) (hby : BytesAt w ad l) (hbo : ∀ b o, ad = some ⟨b, o, none⟩ → b ∉ x.own) (lsn : Int) (hl1 : 1 ≤ lsn) (hl2 : lsn ≤ (x.y.E : Int)) :
    Calls Tryz.prog 69 #[.pointer (some ⟨x.pp, 0, none⟩), .agg #[.int .i64 (q : Int), .int .i64 off, .slice a1 n1 c1, .slice ad n c], .int .i64 lsn] w fun e w' => e = .returned (.int .i64 9) ∧ Fr [] w w' := by
  unfold mayB at hm
  simp at hm
  obtain ⟨o, rfl⟩ : ∃ o : Nat, off = (o : Int) := ⟨off.toNat, by omega⟩
  subst hl
  refine (rig_change h.rig hq o a1 n1 c1 ad c l (by omega) (by omega) hby hbo lsn hl1 hl2).mono ?_
  rintro e w' (⟨h1, _, h3⟩ | ⟨_, x'', _, _, f, x', j, F, _⟩)
  · exact ⟨h1, h3⟩
  · exact (hb.fnd F).elim
/-- What is behind a Change that was done: whatever row has the new version. -/
def PChg (w0 w w' : World) (rg : Nat) (x : Po) (m : Mo) (pages most : Nat) (J : Int) (q o : Nat) (l : List UInt8) (lsn : Int) (x'' : Po) : Prop :=
  Pd w0 w' rg x'' m ∧ Fr x.own w w' ∧ (∀ k ∈ rg :: x''.pp :: x''.own, k ∈ rg :: x.pp :: x.own ∨ w.heap.size ≤ k) ∧ x''.pp = x.pp ∧
  ∀ r v, m.R[q]? = some r → r.vs.getLast? = some v → ∀ (r' : Rw) (v' : Vr), r'.vs = r.vs ++ [v'] → v'.l = over v.l o l → v'.n = max lsn v.n → (r'.vs.length : Int) ≤ J + 1 → Iv pages most J x'' (m.R.set q r') m.hs
theorem pchange_fine (h : Pd w0 w rg x m) (I : Iv pages most J x m.R m.hs) {q : Nat} (hq : q < x.pages) (hb : ¬ Busy x q) (o : Nat) (a1 : Option Addr) (n1 c1 : Nat) (ad : Option Addr) (n c : Nat) (l : List UInt8) (hl : l.length = n) (hm : mayB (o : Int) n = true) (hby : BytesAt w ad l) (hbo : ∀ b o, ad = some ⟨b, o, none⟩ → b ∉ x.own) (lsn : Int) (hl1 : 1 ≤ lsn) (hl2 : lsn ≤ (x.y.E : Int)) :
    Calls Tryz.prog 69 #[.pointer (some ⟨x.pp, 0, none⟩), .agg #[.int .i64 (q : Int), .int .i64 (o : Int), .slice a1 n1 c1, .slice ad n c], .int .i64 lsn] w fun e w' => e = .returned (.int .i64 0) ∧ Hid (∃ x'', PChg w0 w w' rg x m pages most J q o l lsn x'') := by
  unfold mayB at hm
  simp at hm
  subst hl
  refine (rig_change h.rig hq o a1 n1 c1 ad c l (by omega) (by omega) hby hbo lsn hl1 hl2).mono ?_
  rintro e w' (⟨_, h2, _⟩ | ⟨rfl, x'', R, st, C⟩)
  · exact (hb h2).elim
  · have V := C.val I.nod R.po.nod
    have P2 := h.step st R V.2.2.2.1
    refine ⟨rfl, hidI ⟨x'', P2, st.fr, fun k hk => ?_, V.2.2.2.1, fun r v hr hv r' v' e1 e2 e3 e4 => ?_⟩⟩
    · rcases List.mem_cons.1 hk with e | hk
      · rw [e]
        exact Or.inl List.mem_cons_self
      rcases List.mem_cons.1 hk with e | hk
      · rw [e, V.2.2.2.1]
        exact Or.inl (List.mem_cons_of_mem _ List.mem_cons_self)
      · rcases st.ow k hk with h1 | h1
        · exact Or.inl (List.mem_cons_of_mem _ (List.mem_cons_of_mem _ h1))
        · exact Or.inr h1
    · obtain ⟨f, x', j, F, hj, rfl⟩ := C
      have A := F.alike I.nod
      have hn' : ((ids x'.fs).map (·.1)).Nodup := by
        rw [← set_pgs (f' := f.changed o l lsn) hj rfl]
        exact R.po.nod
      have I2 := I.fnd F (by rw [← I.pg]; exact hq) hn'
      have e := A.2.2
      subst e
      exact I2.changed hj hl1 hr hv r' v' e1 e2 e3 e4
set_option maxHeartbeats 1000000 in
set_option maxRecDepth 100000 in
/-- Bytes are written over, wherever they lie. -/
theorem over2_any (w : World) (g cap n : Nat) (cur0 : Array Value) (hn : n ≤ 5000) (hg0 : w.heap[g]? = some (.cells cur0 5)) (hs0 : n + 12 ≤ cur0.size) (hsz : cur0.size = cap) :
    Calls Tryz.prog 181 #[.slice (some ⟨g, 0, none⟩) n cap] w fun e w' => e = .returned (.tuple #[]) ∧ Fr [g] w w' ∧ ∃ cur, w'.heap[g]? = some (.cells cur 5) ∧ cur.size = cap := by
  have e1 : IntKind.i64.wrap ((n : Int) + 12) = (n : Int) + 12 := wrapI _ (by omega) (by omega)
  go_enter Tryz.func181, Tryz.ntmps181
  go_wp2_with fail
  go_loopw [3] (fun i wr => ∃ j : Nat, j ≤ n + 12 ∧ i = .int .i64 j ∧ (∃ cur : Array Value, wr.heap[g]? = some (.cells cur 5) ∧ cur.size = cap) ∧ Fr [g] w wr) (fun i _ => n + 12 - (intOf i).toNat)
  case atStart => exact ⟨0, by omega, rfl, ⟨cur0, hg0, hsz⟩, Fr.refl _ _⟩
  case round =>
    obtain ⟨j, hj, rfl, ⟨cur, hg, hs⟩, fr⟩ := hrel
    by_cases hlt : j < n + 12
    · have hlt' : (j : Int) < (n : Int) + 12 := by omega
      have hj0 : (0 : Int) ≤ (j : Int) := by omega
      have hc := cell_of_row wr g j cur 5 (0, 0) hg
      rw [Array.getElem?_eq_getElem (show j < cur.size by omega)] at hc
      have hfz := frozen_of_row wr g j cur 5 hg
      go_wp2_with (go_at_call 230; refine (markByte_any _ 2 j (by omega) (by omega) hj0 (by omega)).mono ?_; rintro e w5 ⟨rfl, rfl⟩)
      exact ⟨⟨j + 1, by omega, by go_num, ⟨_, heap_setCell_same wr g j cur 5 _ hg, by simpa using hs⟩, fr.setCell _ _ (by simp)⟩, by simp [intOf]; omega⟩
    · obtain rfl : j = n + 12 := by omega
      go_wp2_with fail
      go_end0
      exact ⟨rfl, fr, cur, hg, hs⟩
set_option maxHeartbeats 1000000 in
set_option maxRecDepth 100000 in
/-- Lists of a span that were lent are written over. -/
theorem pover (w : World) (blk off : Int) (g1 k1 n1 g2 k2 n2 : Nat) (l1 l2 : List UInt8) (h1 : LentAt w g1 k1 l1) (h2 : LentAt w g2 k2 l2) (e1 : l1.length = n1) (e2 : l2.length = n2) (m1 : n1 ≤ 5000) (m2 : n2 ≤ 5000) :
    Calls Tryz.prog 80 #[.agg #[.int .i64 blk, .int .i64 off, .slice (some ⟨g1, 0, none⟩) n1 k1, .slice (some ⟨g2, 0, none⟩) n2 k2]] w fun e w' => e = .returned (.tuple #[]) ∧ Fr [g1, g2] w w' := by
  have fa : Fr [] w (w.alloc (.cells #[.int .i64 blk, .int .i64 off, .slice (some ⟨g1, 0, none⟩) n1 k1, .slice (some ⟨g2, 0, none⟩) n2 k2] 42)) := (Fr.refl [] w).alloc _
  have hb := heap_alloc_new w (.cells #[.int .i64 blk, .int .i64 off, .slice (some ⟨g1, 0, none⟩) n1 k1, .slice (some ⟨g2, 0, none⟩) n2 k2] 42)
  obtain ⟨cur1, b1, _, s1⟩ := (h1.kept fa (by simp)).ex
  obtain ⟨cur2, b2, _, s2⟩ := (h2.kept fa (by simp)).ex
  have l1' := h1.lt
  have c1 := h1.cap
  have c2 := h2.cap
  have hz1 : w.heap.size ∉ [g1] := by
    simp
    omega
  have X2 : Hid (∀ w2 cur, Fr [g1] (w.alloc (.cells #[.int .i64 blk, .int .i64 off, .slice (some ⟨g1, 0, none⟩) n1 k1, .slice (some ⟨g2, 0, none⟩) n2 k2] 42)) w2 → w2.heap[g1]? = some (.cells cur 5) → cur.size = k1 → w2.cell? ⟨w.heap.size, 3, none⟩ = some (.slice (some ⟨g2, 0, none⟩) n2 k2) ∧ ∃ cur, w2.heap[g2]? = some (.cells cur 5) ∧ cur.size = k2) := hidI (fun w2 cur f hc hs => ⟨cell_of_row w2 w.heap.size 3 _ _ _ (f.same hz1 hb), by
    by_cases e : g2 = g1
    · subst e
      rw [b1] at b2
      cases b2
      exact ⟨cur, hc, by omega⟩
    · exact ⟨cur2, f.same (by simpa using e) b2, s2⟩⟩)
  clear h1 h2 hz1 b2
  go_enter Tryz.func80, Tryz.ntmps80
  go_upto_region 2 with (go_at_call 181; refine (over2_any _ g1 k1 n1 cur1 m1 b1 (by omega) s1).mono ?_; rintro e w2 ⟨rfl, f2, cur, hc, hs⟩)
  obtain ⟨d3, curb, hcb, hsb⟩ := X2.out w2 cur f2 hc hs
  clear X2 hb
  go_wp2_with (go_at_call 181; refine (over2_any _ g2 k2 n2 curb m2 hcb (by omega) hsb).mono ?_; rintro e w3 ⟨rfl, f3, _⟩)
  go_end0
  exact ⟨rfl, ((fa.mono (fun _ _ h => nomatch h)).trans (f2.mono (fun k _ hk => by simp at hk; simp [hk]))).trans (f3.mono (fun k _ hk => by simp at hk; simp [hk]))⟩
/-- The law's span, lent. -/
theorem plent (w : World) (blk off : Int) (ad : Option Addr) (n c : Nat) (l : List UInt8) (hl : l.length = n) (hb : BytesAt w ad l) (hz : ad = none → n = 0 ∧ c = 0) (hn : n ≤ 5000) :
    Calls Tryz.prog 78 #[.agg #[.int .i64 blk, .int .i64 off, .slice none 0 0, .slice ad n c]] w fun e w' => ∃ g1 k1 g2 k2 : Nat, e = .returned (.agg #[.int .i64 blk, .int .i64 off, .slice (some ⟨g1, 0, none⟩) 0 k1, .slice (some ⟨g2, 0, none⟩) n k2]) ∧ Hid (LentAt w' g1 k1 [] ∧ LentAt w' g2 k2 l ∧ w.heap.size ≤ g1 ∧ w.heap.size ≤ g2 ∧ Fr [] w w') := by
  subst hl
  have h := lentSpan_any w ⟨0, 0, 0, 0, 0, 0, blk, off, [], l⟩ ⟨none, 0, ad, c⟩ ⟨BytesAt.nil _ _, hb, fun _ => ⟨rfl, rfl⟩, hz⟩ (by show (0 : Nat) ≤ 5000; omega) hn
  refine Calls.mono h ?_
  rintro e w' ⟨t, rfl, ⟨⟨g1, k1, x1, x2, L1⟩, g2, k2, y1, y2, L2⟩, N, f⟩
  refine ⟨g1, k1, g2, k2, ?_, hidI ⟨L1, L2, N.1 _ x1, N.2 _ y1, f⟩⟩
  unfold spanV
  rw [x1, x2, y1, y2]
  rfl
theorem pkept (w : World) (blk off : Int) (g1 k1 g2 k2 : Nat) (ad : Option Addr) (n c : Nat) (l : List UInt8) (hl : l.length = n) (h1 : LentAt w g1 k1 []) (h2 : LentAt w g2 k2 l) (hb : BytesAt w ad l) (hz : ad = none → n = 0 ∧ c = 0) (hn : n ≤ 5000) :
    Calls Tryz.prog 79 #[.agg #[.int .i64 blk, .int .i64 off, .slice (some ⟨g1, 0, none⟩) 0 k1, .slice (some ⟨g2, 0, none⟩) n k2], .agg #[.int .i64 blk, .int .i64 off, .slice none 0 0, .slice ad n c]] w fun e w' => e = .returned (.bool true) ∧ Fr [] w w' := by
  subst hl
  exact keptSpan_yes w ⟨0, 0, 0, 0, 0, 0, blk, off, [], l⟩ ⟨some ⟨g1, 0, none⟩, k1, some ⟨g2, 0, none⟩, k2⟩ ⟨none, 0, ad, c⟩ ⟨⟨g1, k1, rfl, rfl, h1⟩, g2, k2, rfl, rfl, h2⟩ ⟨BytesAt.nil _ _, hb, fun _ => ⟨rfl, rfl⟩, hz⟩ (by show (0 : Nat) ≤ 5000; omega) hn
end
end Go.Proofs.YtopaeomjndblkaaGreat

