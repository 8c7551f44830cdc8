/-
  ChangeDoes: one deed, in a transaction.
-/
import Derived.Test.YtopaeomjndblkaaGreatZB5
import Derived.BigQuiet
namespace Go.Proofs.YtopaeomjndblkaaGreat
open Go.RowKit Go.Maps
open Pg (SpE diffS)

section
variable {w0 w w' : World} {rg mb bp dd ll pp nb pgn : Nat} {p s : Int} {aN aW : Option Addr} {cN nW cW : Nat} {eN eW : List (Nat × Nat)} {ow ch : Int} {b : Bk} {m : Mst} {U V : Pages} {H : List Ch}
set_option maxHeartbeats 4000000 in
set_option maxRecDepth 100000 in
theorem doesI0 (h : CdI w0 w rg mb bp dd ll pp nb pgn p s aN cN eN aW cW eW b m U H V) (hp : p ≤ 360000) (hs : s ≤ 1000) (hpos : 0 < pgn) (hpg2 : pgn ≤ 200) (d : DdV) (ok : DdOk w d) (PK : Hid (∀ w', Calls Tryz.prog 40 #[.int .i64 d.kind, .int .i64 9] w' fun e w'' => e = .returned (.int .i64 0) ∧ w'' = w')) :
    Calls Tryz.prog 25 #[.pointer (some ⟨rg, 0, none⟩), .pointer (some ⟨mb, 0, none⟩), .agg (ddV d).toArray] w fun e w' => e = .returned (.bool true) ∧ Hid (CdB true w0 w' rg mb bp dd ll pp nb pgn (p + 5900) (s + 1)) := by
  have _u := And.intro hp (And.intro hs (And.intro hpos hpg2))
  clear _u
  obtain ⟨db, hdb⟩ : ∃ db, w.heap.size = db := ⟨_, rfl⟩
  unfold ddV
  obtain ⟨pq, hpq⟩ : ∃ pq : Int, d.page = pq := ⟨_, rfl⟩
  rw [hpq]
  have HPQ := hidI hpq
  have f1 : Fr [] w (w.alloc (.cells #[.int .i64 d.kind, .int .i64 pq, .int .i64 d.off, .int .i64 d.many, .slice d.ad d.l.length d.c, .bool d.odd] 64)) := (Fr.refl [] w).alloc _
  have h1 := heap_alloc_new w (.cells #[.int .i64 d.kind, .int .i64 pq, .int .i64 d.off, .int .i64 d.many, .slice d.ad d.l.length d.c, .bool d.odd] 64)
  rw [hdb] at h1
  obtain ⟨w1, hw1⟩ : ∃ w1, w.alloc (.cells #[.int .i64 d.kind, .int .i64 pq, .int .i64 d.off, .int .i64 d.many, .slice d.ad d.l.length d.c, .bool d.odd] 64) = w1 := ⟨_, rfl⟩
  rw [hw1] at f1 h1
  have X1 := hidI (h.quiet f1)
  have OK := hidI (ok.kept f1)
  have D1 := hidI h1
  have d0 : w1.cell? ⟨db, 0, none⟩ = some (.int .i64 d.kind) := cell_of_row w1 db 0 _ _ _ h1
  have m2 : w1.cell? ⟨mb, 2, none⟩ = some (.bool true) := X1.out.g.mc rfl
  have r1 : w1.cell? ⟨rg, 1, none⟩ = some (.pointer (some ⟨ll, 0, none⟩)) := X1.out.g.c1
  have r3 : w1.cell? ⟨rg, 3, none⟩ = some (.pointer (some ⟨bp, 0, none⟩)) := X1.out.g.c3
  clear h ok f1 h1 hpq
  go_enter Tryz.func25, Tryz.ntmps25
  have RX := X1.out.g.room
  go_wp2_with (first
    | (go_at_call 40; refine (PK.out _).mono ?_; rintro e wz ⟨rfl, hz⟩; rw [hz]; clear hz)
    | (go_at_call 89; refine RX.mono ?_; rintro e w2 ⟨rfl, f2⟩; have X2 := hidI (X1.out.quiet f2); have r3b := X2.out.g.c3; have m2b : w2.cell? ⟨mb, 2, none⟩ = some (.bool true) := X2.out.g.mc rfl; have BX := cbeg_in X2.out.g.ab X2.out.tx.st)
    | (go_at_call 30; refine BX.mono ?_; rintro e wz ⟨rfl, hz⟩; rw [hz]; clear hz))
  go_ret
  exact ⟨rfl, hidI (X2.out.le (by omega) (by omega)).cd⟩
set_option maxHeartbeats 4000000 in
set_option maxRecDepth 100000 in
theorem doesI5 (h : CdI w0 w rg mb bp dd ll pp nb pgn p s aN cN eN aW cW eW b m U H V) (hp : p ≤ 360000) (hs : s ≤ 1000) (hpos : 0 < pgn) (hpg2 : pgn ≤ 200) (d : DdV) (ok : DdOk w d) (PK : Hid (∀ w', Calls Tryz.prog 40 #[.int .i64 d.kind, .int .i64 9] w' fun e w'' => e = .returned (.int .i64 5) ∧ w'' = w')) :
    Calls Tryz.prog 25 #[.pointer (some ⟨rg, 0, none⟩), .pointer (some ⟨mb, 0, none⟩), .agg (ddV d).toArray] w fun e w' => e = .returned (.bool true) ∧ Hid (CdB false w0 w' rg mb bp dd ll pp nb pgn (p + 5900) (s + 1)) := by
  have _u := And.intro hp (And.intro hs (And.intro hpos hpg2))
  clear _u
  obtain ⟨db, hdb⟩ : ∃ db, w.heap.size = db := ⟨_, rfl⟩
  unfold ddV
  obtain ⟨pq, hpq⟩ : ∃ pq : Int, d.page = pq := ⟨_, rfl⟩
  rw [hpq]
  have HPQ := hidI hpq
  have f1 : Fr [] w (w.alloc (.cells #[.int .i64 d.kind, .int .i64 pq, .int .i64 d.off, .int .i64 d.many, .slice d.ad d.l.length d.c, .bool d.odd] 64)) := (Fr.refl [] w).alloc _
  have h1 := heap_alloc_new w (.cells #[.int .i64 d.kind, .int .i64 pq, .int .i64 d.off, .int .i64 d.many, .slice d.ad d.l.length d.c, .bool d.odd] 64)
  rw [hdb] at h1
  obtain ⟨w1, hw1⟩ : ∃ w1, w.alloc (.cells #[.int .i64 d.kind, .int .i64 pq, .int .i64 d.off, .int .i64 d.many, .slice d.ad d.l.length d.c, .bool d.odd] 64) = w1 := ⟨_, rfl⟩
  rw [hw1] at f1 h1
  have X1 := hidI (h.quiet f1)
  have OK := hidI (ok.kept f1)
  have D1 := hidI h1
  have d0 : w1.cell? ⟨db, 0, none⟩ = some (.int .i64 d.kind) := cell_of_row w1 db 0 _ _ _ h1
  have m2 : w1.cell? ⟨mb, 2, none⟩ = some (.bool true) := X1.out.g.mc rfl
  have r1 : w1.cell? ⟨rg, 1, none⟩ = some (.pointer (some ⟨ll, 0, none⟩)) := X1.out.g.c1
  have r3 : w1.cell? ⟨rg, 3, none⟩ = some (.pointer (some ⟨bp, 0, none⟩)) := X1.out.g.c3
  clear h ok f1 h1 hpq
  go_enter Tryz.func25, Tryz.ntmps25
  have CX := X1.out.commit (by omega)
  go_upto_region 29 with (first
    | (go_at_call 40; refine (PK.out _).mono ?_; rintro e wz ⟨rfl, hz⟩; rw [hz]; clear hz)
    | (go_at_call 32; refine CX.mono ?_; rintro e w2 ⟨rfl, b2, P2⟩))
  have G2 := hidI (X1.out.g.go P2.out.st P2.out.env X1.out.g.tn)
  have m2b : w2.cell? ⟨mb, 2, none⟩ = some (.bool true) := G2.out.mc rfl
  have r1b := G2.out.c1
  obtain ⟨E1, hE1⟩ : ∃ E1 : Int, (b2.x.y.E : Int) + 1 = E1 := ⟨_, rfl⟩
  have SX : Hid (∀ w', Fr [] w2 w' → Calls Tryz.prog 85 #[.pointer (some ⟨ll, 0, none⟩)] w' fun e w'' => e = .returned (.int .i64 E1) ∧ w'' = w') := hidI (fun w' f => by
    have h1 := (G2.out.quiet f).safe
    rw [P2.out.P, hE1] at h1
    exact h1)
  have EX : Hid (∀ w', Fr [] w2 w' → Calls Tryz.prog 77 #[.pointer (some ⟨ll, 0, none⟩)] w' fun e w'' => e = .returned (.int .i64 E1) ∧ w'' = w') := hidI (fun w' f => by
    have h1 := (G2.out.quiet f).end_
    rw [hE1] at h1
    exact h1)
  have b1 : (E1 != E1) = false := by simp
  clear d0 m2 r1 r3 CX hE1
  go_quiet (first
    | (go_at_call 85; exact Calls.quiet_of_same (SX.out _ (by first | exact (Fr.refl [] w2).drewN _ | exact (Fr.refl [] w2).drew | exact Fr.refl [] w2)))
    | (go_at_call 77; exact Calls.quiet_of_same (EX.out _ (by first | exact (Fr.refl [] w2).drewN _ | exact (Fr.refl [] w2).drew | exact Fr.refl [] w2))))
  obtain ⟨w4, e4, z4, c4, P4⟩ := X1.out.ended (by omega) P2.out ((Fr.refl [] w2).drewN nq)
  clear m2b r1b SX EX b1
  go_wp2_with fail
  go_ret
  exact ⟨rfl, hidI (P4.out.le (by omega) (by omega)).cd⟩
set_option maxHeartbeats 4000000 in
set_option maxRecDepth 100000 in
theorem doesI6 (h : CdI w0 w rg mb bp dd ll pp nb pgn p s aN cN eN aW cW eW b m U H V) (hp : p ≤ 360000) (hs : s ≤ 1000) (hpos : 0 < pgn) (hpg2 : pgn ≤ 200) (d : DdV) (ok : DdOk w d) (PK : Hid (∀ w', Calls Tryz.prog 40 #[.int .i64 d.kind, .int .i64 9] w' fun e w'' => e = .returned (.int .i64 6) ∧ w'' = w')) :
    Calls Tryz.prog 25 #[.pointer (some ⟨rg, 0, none⟩), .pointer (some ⟨mb, 0, none⟩), .agg (ddV d).toArray] w fun e w' => e = .returned (.bool true) ∧ Hid (CdB false w0 w' rg mb bp dd ll pp nb pgn (p + 5900) (s + 1)) := by
  have _u := And.intro hp (And.intro hs (And.intro hpos hpg2))
  clear _u
  obtain ⟨db, hdb⟩ : ∃ db, w.heap.size = db := ⟨_, rfl⟩
  unfold ddV
  obtain ⟨pq, hpq⟩ : ∃ pq : Int, d.page = pq := ⟨_, rfl⟩
  rw [hpq]
  have HPQ := hidI hpq
  have f1 : Fr [] w (w.alloc (.cells #[.int .i64 d.kind, .int .i64 pq, .int .i64 d.off, .int .i64 d.many, .slice d.ad d.l.length d.c, .bool d.odd] 64)) := (Fr.refl [] w).alloc _
  have h1 := heap_alloc_new w (.cells #[.int .i64 d.kind, .int .i64 pq, .int .i64 d.off, .int .i64 d.many, .slice d.ad d.l.length d.c, .bool d.odd] 64)
  rw [hdb] at h1
  obtain ⟨w1, hw1⟩ : ∃ w1, w.alloc (.cells #[.int .i64 d.kind, .int .i64 pq, .int .i64 d.off, .int .i64 d.many, .slice d.ad d.l.length d.c, .bool d.odd] 64) = w1 := ⟨_, rfl⟩
  rw [hw1] at f1 h1
  have X1 := hidI (h.quiet f1)
  have OK := hidI (ok.kept f1)
  have D1 := hidI h1
  have d0 : w1.cell? ⟨db, 0, none⟩ = some (.int .i64 d.kind) := cell_of_row w1 db 0 _ _ _ h1
  have m2 : w1.cell? ⟨mb, 2, none⟩ = some (.bool true) := X1.out.g.mc rfl
  have r1 : w1.cell? ⟨rg, 1, none⟩ = some (.pointer (some ⟨ll, 0, none⟩)) := X1.out.g.c1
  have r3 : w1.cell? ⟨rg, 3, none⟩ = some (.pointer (some ⟨bp, 0, none⟩)) := X1.out.g.c3
  clear h ok f1 h1 hpq
  go_enter Tryz.func25, Tryz.ntmps25
  have CX := X1.out.abort (by omega)
  go_upto_region 36 with (first
    | (go_at_call 40; refine (PK.out _).mono ?_; rintro e wz ⟨rfl, hz⟩; rw [hz]; clear hz)
    | (go_at_call 33; refine CX.mono ?_; rintro e w2 ⟨rfl, b2, P2⟩; have m2b : w2.cell? ⟨mb, 2, none⟩ = some (.bool true) := (X1.out.g.go P2.out.st P2.out.env X1.out.g.tn).mc rfl; have m1b : w2.cell? ⟨mb, 1, none⟩ = some (.slice aW pgn cW) := (X1.out.g.go P2.out.st P2.out.env X1.out.g.tn).mc rfl))
  have TX := copied_tab (X1.out.tw.go X1.out.g.ab.bk P2.out.st).t (by omega)
  clear d0 m2 r1 r3 CX m2b
  go_wp2_with (go_at_call 90; refine TX.mono ?_; rintro e w4 ⟨a', c', es', rfl, P4⟩; clear TX m1b; obtain ⟨w5, w6, e5, z5, c5, e6, z6, c6, P6⟩ := X1.out.undone (by omega) P2.out (Fr.refl [] w2) P4.out.1 P4.out.2)
  go_ret
  exact ⟨rfl, hidI (P6.out.le (by omega) (by omega)).cd⟩
set_option maxHeartbeats 4000000 in
set_option maxRecDepth 100000 in
theorem doesI7 (h : CdI w0 w rg mb bp dd ll pp nb pgn p s aN cN eN aW cW eW b m U H V) (hp : p ≤ 360000) (hs : s ≤ 1000) (hpos : 0 < pgn) (hpg2 : pgn ≤ 200) (d : DdV) (ok : DdOk w d) (PK : Hid (∀ w', Calls Tryz.prog 40 #[.int .i64 d.kind, .int .i64 9] w' fun e w'' => e = .returned (.int .i64 7) ∧ w'' = w')) :
    Calls Tryz.prog 25 #[.pointer (some ⟨rg, 0, none⟩), .pointer (some ⟨mb, 0, none⟩), .agg (ddV d).toArray] w fun e w' => e = .returned (.bool true) ∧ Hid (CdB true w0 w' rg mb bp dd ll pp nb pgn (p + 5900) (s + 1)) := by
  have _u := And.intro hp (And.intro hs (And.intro hpos hpg2))
  clear _u
  obtain ⟨db, hdb⟩ : ∃ db, w.heap.size = db := ⟨_, rfl⟩
  unfold ddV
  obtain ⟨pq, hpq⟩ : ∃ pq : Int, d.page = pq := ⟨_, rfl⟩
  rw [hpq]
  have HPQ := hidI hpq
  have f1 : Fr [] w (w.alloc (.cells #[.int .i64 d.kind, .int .i64 pq, .int .i64 d.off, .int .i64 d.many, .slice d.ad d.l.length d.c, .bool d.odd] 64)) := (Fr.refl [] w).alloc _
  have h1 := heap_alloc_new w (.cells #[.int .i64 d.kind, .int .i64 pq, .int .i64 d.off, .int .i64 d.many, .slice d.ad d.l.length d.c, .bool d.odd] 64)
  rw [hdb] at h1
  obtain ⟨w1, hw1⟩ : ∃ w1, w.alloc (.cells #[.int .i64 d.kind, .int .i64 pq, .int .i64 d.off, .int .i64 d.many, .slice d.ad d.l.length d.c, .bool d.odd] 64) = w1 := ⟨_, rfl⟩
  rw [hw1] at f1 h1
  have X1 := hidI (h.quiet f1)
  have OK := hidI (ok.kept f1)
  have D1 := hidI h1
  have d0 : w1.cell? ⟨db, 0, none⟩ = some (.int .i64 d.kind) := cell_of_row w1 db 0 _ _ _ h1
  have m2 : w1.cell? ⟨mb, 2, none⟩ = some (.bool true) := X1.out.g.mc rfl
  have r1 : w1.cell? ⟨rg, 1, none⟩ = some (.pointer (some ⟨ll, 0, none⟩)) := X1.out.g.c1
  have r3 : w1.cell? ⟨rg, 3, none⟩ = some (.pointer (some ⟨bp, 0, none⟩)) := X1.out.g.c3
  clear h ok f1 h1 hpq
  go_enter Tryz.func25, Tryz.ntmps25
  have BX := cpoint_in X1.out.g.ab X1.out.tx.st
  go_wp2_with (first
    | (go_at_call 40; refine (PK.out _).mono ?_; rintro e wz ⟨rfl, hz⟩; rw [hz]; clear hz)
    | (go_at_call 34; refine BX.mono ?_; rintro e w2 ⟨rfl, f2⟩; have m2b : w2.cell? ⟨mb, 2, none⟩ = some (.bool true) := (X1.out.quiet f2).g.mc rfl))
  go_ret
  exact ⟨rfl, hidI ((X1.out.quiet f2).le (by omega) (by omega)).cd⟩
set_option maxHeartbeats 4000000 in
set_option maxRecDepth 100000 in
theorem doesI8 (h : CdI w0 w rg mb bp dd ll pp nb pgn p s aN cN eN aW cW eW b m U H V) (hp : p ≤ 360000) (hs : s ≤ 1000) (hpos : 0 < pgn) (hpg2 : pgn ≤ 200) (d : DdV) (ok : DdOk w d) (PK : Hid (∀ w', Calls Tryz.prog 40 #[.int .i64 d.kind, .int .i64 9] w' fun e w'' => e = .returned (.int .i64 8) ∧ w'' = w')) :
    Calls Tryz.prog 25 #[.pointer (some ⟨rg, 0, none⟩), .pointer (some ⟨mb, 0, none⟩), .agg (ddV d).toArray] w fun e w' => e = .returned (.bool true) ∧ Hid (CdB true w0 w' rg mb bp dd ll pp nb pgn (p + 5900) (s + 1)) := by
  have _u := And.intro hp (And.intro hs (And.intro hpos hpg2))
  clear _u
  obtain ⟨db, hdb⟩ : ∃ db, w.heap.size = db := ⟨_, rfl⟩
  unfold ddV
  obtain ⟨pq, hpq⟩ : ∃ pq : Int, d.page = pq := ⟨_, rfl⟩
  rw [hpq]
  have HPQ := hidI hpq
  have f1 : Fr [] w (w.alloc (.cells #[.int .i64 d.kind, .int .i64 pq, .int .i64 d.off, .int .i64 d.many, .slice d.ad d.l.length d.c, .bool d.odd] 64)) := (Fr.refl [] w).alloc _
  have h1 := heap_alloc_new w (.cells #[.int .i64 d.kind, .int .i64 pq, .int .i64 d.off, .int .i64 d.many, .slice d.ad d.l.length d.c, .bool d.odd] 64)
  rw [hdb] at h1
  obtain ⟨w1, hw1⟩ : ∃ w1, w.alloc (.cells #[.int .i64 d.kind, .int .i64 pq, .int .i64 d.off, .int .i64 d.many, .slice d.ad d.l.length d.c, .bool d.odd] 64) = w1 := ⟨_, rfl⟩
  rw [hw1] at f1 h1
  have X1 := hidI (h.quiet f1)
  have OK := hidI (ok.kept f1)
  have D1 := hidI h1
  have d0 : w1.cell? ⟨db, 0, none⟩ = some (.int .i64 d.kind) := cell_of_row w1 db 0 _ _ _ h1
  have m2 : w1.cell? ⟨mb, 2, none⟩ = some (.bool true) := X1.out.g.mc rfl
  have r1 : w1.cell? ⟨rg, 1, none⟩ = some (.pointer (some ⟨ll, 0, none⟩)) := X1.out.g.c1
  have r3 : w1.cell? ⟨rg, 3, none⟩ = some (.pointer (some ⟨bp, 0, none⟩)) := X1.out.g.c3
  clear h ok f1 h1 hpq
  go_enter Tryz.func25, Tryz.ntmps25
  have d1 : w1.cell? ⟨db, 1, none⟩ = some (.int .i64 pq) := cell_of_row w1 db 1 _ _ _ D1.out
  have KC : Hid (∀ w', Fr [] w1 w' → w'.cell? ⟨rg, 3, none⟩ = some (.pointer (some ⟨bp, 0, none⟩)) ∧ w'.cell? ⟨db, 1, none⟩ = some (.int .i64 pq) ∧ w'.cell? ⟨mb, 0, none⟩ = some (.slice aN pgn cN)) := hidI (fun w' f => ⟨(X1.out.g.quiet f).c3, cell_of_row w' db 1 _ _ _ (f.same (by simp) D1.out), (X1.out.g.quiet f).mc rfl⟩)
  have hpgs : b.x.pages = pgn := X1.out.g.pg
  by_cases hin : 0 ≤ pq ∧ pq < (pgn : Int)
  · obtain ⟨q, rfl⟩ : ∃ q : Nat, pq = (q : Int) := ⟨pq.toNat, by omega⟩
    have hqn : q < pgn := by omega
    have PX := ab_page (X1.out.quiet (Fr.refl [] w1).drew).g.ab (X1.out.quiet (Fr.refl [] w1).drew).tx.sh (page := q) (by rw [hpgs]; exact hqn)
    have XD := hidI (X1.out.quiet (Fr.refl [] w1).drew)
    have DD := hidI ((Fr.refl [] w1).drew.same (by simp) D1.out)
    have hdb5 : db ∉ b.dp :: b.x.own := (X1.out.g.ab.bk.away D1.out (by decide) (by decide) (by decide) (by decide)).2.1
    clear hin
    go_upto_region 8 with (go_at_call 40; refine (PK.out _).mono ?_; rintro e wz ⟨rfl, hz⟩; rw [hz]; clear hz)
    clear d0 m2 r1
    go_region_held3 (fun w' => w'.cell? ⟨rg, 3, none⟩ = some (.pointer (some ⟨bp, 0, none⟩)) ∧ w'.cell? ⟨db, 1, none⟩ = some (.int .i64 (q : Int))) (first | exact ⟨r3, d1⟩ | exact KK) ((first
      | (go_at_call 28; refine PX.mono ?_; rintro e w2 ⟨g2, b2, rfl, P2⟩; have X2 := hidI (XD.out.page P2.out.2); have D2 := hidI (P2.out.2.st.fr.same hdb5 DD.out); have KK : w2.cell? ⟨rg, 3, none⟩ = some (.pointer (some ⟨bp, 0, none⟩)) ∧ w2.cell? ⟨db, 1, none⟩ = some (.int .i64 (q : Int)) := ⟨X2.out.g.c3, cell_of_row w2 db 1 _ _ _ D2.out⟩)))
    have B2 := hidI P2.out.2.blk
    clear KK PX r3 d1 KC XD DD hdb5 P2
    have m0 : w2.cell? ⟨mb, 0, none⟩ = some (.slice aN pgn cN) := X2.out.g.mc rfl
    have d1 : w2.cell? ⟨db, 1, none⟩ = some (.int .i64 (q : Int)) := cell_of_row w2 db 1 _ _ _ D2.out
    have k0 : (0 : Int) ≤ (q : Int) := by omega
    have k1 : (q : Int) < (pgn : Int) := by omega
    go_upto_region 9 with fail
    go_quiet (fail)
    obtain ⟨w3, hw3⟩ : ∃ w3, w2.drewN nq = w3 := ⟨_, rfl⟩
    have f3 : Fr [] w2 w3 := by rw [← hw3]; exact (Fr.refl [] w2).drewN nq
    rw [hw3]
    have X3 := hidI (X2.out.quiet f3)
    have D3 := hidI (f3.same (by simp) D2.out)
    have B3 := hidI (B2.out.kept f3 (by simp))
    obtain ⟨tb, e, rfl, he, _⟩ := X3.out.tn.t.at q hqn
    have KD : Hid (∀ w', Fr [] w3 w' → w'.cell? ⟨mb, 0, none⟩ = some (.slice (some ⟨tb, 0, none⟩) pgn cN) ∧ w'.cell? ⟨db, 1, none⟩ = some (.int .i64 (q : Int)) ∧ w'.cell? ⟨tb, q, none⟩ = some (.slice (some ⟨e.1, 0, none⟩) 512 e.2)) := hidI (fun w' f => by
      obtain ⟨tb', e', ha, he', hc'⟩ := (X3.out.tn.t.quiet f).at q hqn
      cases ha
      rw [he] at he'
      cases he'
      exact ⟨(X3.out.g.quiet f).mc rfl, cell_of_row w' db 1 _ _ _ (f.same (by simp) D3.out), hc'⟩)
    have T3 := X3.out.tn.t.blk q e he
    have SX := same_any w3.drew (some ⟨g2, 0, none⟩) (some ⟨e.1, 0, none⟩) (V q) (V q) 512 512 e.2 ((B3.out.kept (Fr.refl [] w3).drew (by simp)).bytes) ((T3.1.kept (Fr.refl [] w3).drew (by simp)).bytes) T3.2.1 T3.2.1 (by omega)
    rw [show (V q == V q) = true by simp] at SX
    clear X2 D2 B2 m0 d1 he T3 hw3 f3
    go_upto_region 12 with fail
    go_region_held3 (fun w' => w'.cell? ⟨mb, 0, none⟩ = some (.slice (some ⟨tb, 0, none⟩) pgn cN) ∧ w'.cell? ⟨db, 1, none⟩ = some (.int .i64 (q : Int)) ∧ w'.cell? ⟨tb, q, none⟩ = some (.slice (some ⟨e.1, 0, none⟩) 512 e.2)) (first | exact KD.out _ (Fr.refl [] w3).drew | exact KD.out _ (Fr.refl [] w3) | exact KK) ((first
      | (go_at_call 29; refine SX.mono ?_; rintro e4 w4 ⟨rfl, f4⟩; have F4 := hidI ((Fr.refl [] w3).drew.trans f4); have KK := KD.out _ F4.out)))
    go_wp2_with fail
    go_ret
    exact ⟨rfl, hidI ((X3.out.quiet F4.out).le (by omega) (by omega)).cd⟩
  · have PX := cpage_none (X1.out.quiet (Fr.refl [] w1).drew).g.ab pq (by rw [hpgs]; omega)
    go_upto_region 8 with (go_at_call 40; refine (PK.out _).mono ?_; rintro e wz ⟨rfl, hz⟩; rw [hz]; clear hz)
    clear d0 m2 r1
    go_region_held3 (fun w' => w'.cell? ⟨rg, 3, none⟩ = some (.pointer (some ⟨bp, 0, none⟩)) ∧ w'.cell? ⟨db, 1, none⟩ = some (.int .i64 pq)) (first | exact ⟨r3, d1⟩ | exact KK) ((first
      | (go_at_call 28; refine PX.mono ?_; rintro e w2 ⟨rfl, hz⟩; have F2 : Hid (Fr [] w1 w2) := hidI (by rw [hz]; exact (Fr.refl [] w1).drew); have KK : w2.cell? ⟨rg, 3, none⟩ = some (.pointer (some ⟨bp, 0, none⟩)) ∧ w2.cell? ⟨db, 1, none⟩ = some (.int .i64 pq) := ⟨(KC.out _ F2.out).1, (KC.out _ F2.out).2.1⟩; clear hz)))
    obtain ⟨_, d1b, m0b⟩ := KC.out _ F2.out
    clear KK PX r3 d1
    go_upto_region 9 with fail
    by_cases q0 : 0 ≤ pq
    · have q1 : ¬ pq < (pgn : Int) := fun h => hin ⟨q0, h⟩
      clear hin
      go_quiet (fail)
      go_wp2_with fail
      go_ret
      exact ⟨rfl, hidI ((X1.out.quiet (F2.out.drewN nq)).le (by omega) (by omega)).cd⟩
    · clear hin
      go_quiet (fail)
      go_wp2_with fail
      go_ret
      exact ⟨rfl, hidI ((X1.out.quiet (F2.out.drewN nq)).le (by omega) (by omega)).cd⟩
set_option maxHeartbeats 4000000 in
set_option maxRecDepth 100000 in
theorem doesIP (h : CdI w0 w rg mb bp dd ll pp nb pgn p s aN cN eN aW cW eW b m U H V) (hp : p ≤ 360000) (hs : s ≤ 1000) (hpos : 0 < pgn) (hpg2 : pgn ≤ 200) (d : DdV) (ok : DdOk w d) (h1000 : d.l.length ≤ 1000) (hdn : d.l = [] ∨ ∀ bb off, d.ad = some ⟨bb, off, none⟩ → bb ∉ b.dp :: b.x.own) {k : Int} (hk : k = 1 ∨ k = 2 ∨ k = 3 ∨ k = 4) (PK : Hid (∀ w', Calls Tryz.prog 40 #[.int .i64 d.kind, .int .i64 9] w' fun e w'' => e = .returned (.int .i64 k) ∧ w'' = w')) :
    Calls Tryz.prog 25 #[.pointer (some ⟨rg, 0, none⟩), .pointer (some ⟨mb, 0, none⟩), .agg (ddV d).toArray] w fun e w' => e = .returned (.bool true) ∧ Hid (CdB true w0 w' rg mb bp dd ll pp nb pgn (p + 5900) (s + 1)) := by
  have _u := And.intro hp (And.intro hs (And.intro hpos hpg2))
  clear _u
  obtain ⟨db, hdb⟩ : ∃ db, w.heap.size = db := ⟨_, rfl⟩
  unfold ddV
  obtain ⟨pq, hpq⟩ : ∃ pq : Int, d.page = pq := ⟨_, rfl⟩
  rw [hpq]
  have HPQ := hidI hpq
  have f1 : Fr [] w (w.alloc (.cells #[.int .i64 d.kind, .int .i64 pq, .int .i64 d.off, .int .i64 d.many, .slice d.ad d.l.length d.c, .bool d.odd] 64)) := (Fr.refl [] w).alloc _
  have h1 := heap_alloc_new w (.cells #[.int .i64 d.kind, .int .i64 pq, .int .i64 d.off, .int .i64 d.many, .slice d.ad d.l.length d.c, .bool d.odd] 64)
  rw [hdb] at h1
  obtain ⟨w1, hw1⟩ : ∃ w1, w.alloc (.cells #[.int .i64 d.kind, .int .i64 pq, .int .i64 d.off, .int .i64 d.many, .slice d.ad d.l.length d.c, .bool d.odd] 64) = w1 := ⟨_, rfl⟩
  rw [hw1] at f1 h1
  have X1 := hidI (h.quiet f1)
  have OK := hidI (ok.kept f1)
  have D1 := hidI h1
  have d0 : w1.cell? ⟨db, 0, none⟩ = some (.int .i64 d.kind) := cell_of_row w1 db 0 _ _ _ h1
  have m2 : w1.cell? ⟨mb, 2, none⟩ = some (.bool true) := X1.out.g.mc rfl
  have r1 : w1.cell? ⟨rg, 1, none⟩ = some (.pointer (some ⟨ll, 0, none⟩)) := X1.out.g.c1
  have r3 : w1.cell? ⟨rg, 3, none⟩ = some (.pointer (some ⟨bp, 0, none⟩)) := X1.out.g.c3
  clear h ok f1 h1 hpq
  go_enter Tryz.func25, Tryz.ntmps25
  have PUT := put_any (Or.inr ⟨rfl, eW, U, H, rfl, rfl, rfl, X1.out⟩) hp d OK.out h1000 hdn
  unfold ddV at PUT
  rw [HPQ.out] at PUT
  have d1 : w1.cell? ⟨db, 1, none⟩ = some (.int .i64 pq) := cell_of_row w1 db 1 _ _ _ D1.out
  have d2 : w1.cell? ⟨db, 2, none⟩ = some (.int .i64 d.off) := cell_of_row w1 db 2 _ _ _ D1.out
  have d3 : w1.cell? ⟨db, 3, none⟩ = some (.int .i64 d.many) := cell_of_row w1 db 3 _ _ _ D1.out
  have d4 : w1.cell? ⟨db, 4, none⟩ = some (.slice d.ad d.l.length d.c) := cell_of_row w1 db 4 _ _ _ D1.out
  have d5 : w1.cell? ⟨db, 5, none⟩ = some (.bool d.odd) := cell_of_row w1 db 5 _ _ _ D1.out
  clear r1 r3 X1 OK D1 h1000 hdn HPQ
  rcases hk with rfl | rfl | rfl | rfl
  all_goals
    go_wp2_with (first
      | (go_at_call 40; refine (PK.out _).mono ?_; rintro e wz ⟨rfl, hz⟩; rw [hz]; clear hz)
      | (go_at_call 92; refine PUT.mono ?_; rintro e w2 ⟨rfl, P⟩))
    go_ret
    exact ⟨rfl, hidI (P.out.le (by omega) (by omega))⟩
end
end Go.Proofs.YtopaeomjndblkaaGreat

