/-
  ChangeDoes: put.
-/
import Derived.Test.YtopaeomjndblkaaGreatZA
import Derived.Deep.Cut
import Derived.Deep.CutRange
import Derived.BigQuiet
namespace Go.Proofs.YtopaeomjndblkaaGreat
open Go.RowKit Go.Maps
open Pg (SpE diffS)

section
variable {w0 w w' : World} {rg mb bp dd ll pp nb pgn : Nat} {p s : Int}
set_option maxHeartbeats 8000000 in
set_option maxRecDepth 100000 in
theorem put_any {aN aW : Option Addr} {cN nW cW : Nat} {eN : List (Nat × Nat)} {i : Bool} {ow ch : Int} {b : Bk} {m : Mst} {V : Pages} (OI : (i = false ∧ CdO w0 w rg mb bp dd ll pp nb pgn p s aN cN eN aW nW cW ow ch b m V) ∨ (i = true ∧ ∃ eW U H, pgn = nW ∧ ow = 35 + keptOf H ∧ ch = b.t.chg ∧ CdI w0 w rg mb bp dd ll pp nb pgn p s aN cN eN aW cW eW b m U H V)) (hp : p ≤ 360000) (d : DdV) (ok : DdOk w d) (h1000 : d.l.length ≤ 1000) (hdn : d.l = [] ∨ ∀ bb off, d.ad = some ⟨bb, off, none⟩ → bb ∉ b.dp :: b.x.own) :
    Calls Tryz.prog 92 #[.pointer (some ⟨rg, 0, none⟩), .pointer (some ⟨mb, 0, none⟩), .agg (ddV d).toArray] w fun e w' => e = .returned (.bool true) ∧ Hid (CdB i w0 w' rg mb bp dd ll pp nb pgn (p + 5800) s) := by
  have G : Cg w0 w rg mb bp dd ll pp nb pgn (mdl aN pgn cN aW nW cW i ow ch) b m := by
    rcases OI with ⟨rfl, h⟩ | ⟨rfl, eW, U, H, rfl, rfl, rfl, h⟩
    · exact h.g
    · exact h.g
  have T : Tb w0 w b aN pgn cN eN V := by
    rcases OI with ⟨_, h⟩ | ⟨_, eW, U, H, _, _, _, h⟩
    · exact h.tn
    · exact h.tn
  have how : 0 ≤ ow ∧ ow ≤ 500000 := by
    rcases OI with ⟨_, h⟩ | ⟨_, eW, U, H, _, h1, _, h⟩
    · exact h.ob
    · have h2 := keptOf_nonneg H
      have h3 := h.ph
      unfold phN at h3
      omega
  have OIH := hidI OI
  have HDN := hidI hdn
  clear OI hdn
  obtain ⟨db, hdb⟩ : ∃ db, w.heap.size = db := ⟨_, rfl⟩
  unfold ddV
  obtain ⟨od, hod⟩ : ∃ od : Bool, d.odd = od := ⟨_, rfl⟩
  obtain ⟨pq, hpq⟩ : ∃ pq : Int, d.page = pq := ⟨_, rfl⟩
  rw [hod, hpq]
  have HOD := hidI (And.intro hod hpq)
  clear hod hpq
  have f1 : Fr [] w (w.alloc (.cells #[.int .i64 d.kind, .int .i64 pq, .int .i64 d.off, .int .i64 d.many, .slice d.ad d.l.length d.c, .bool od] 64)) := (Fr.refl [] w).alloc _
  have h1 := heap_alloc_new w (.cells #[.int .i64 d.kind, .int .i64 pq, .int .i64 d.off, .int .i64 d.many, .slice d.ad d.l.length d.c, .bool od] 64)
  rw [hdb] at h1
  obtain ⟨w1, hw1⟩ : ∃ w1, w.alloc (.cells #[.int .i64 d.kind, .int .i64 pq, .int .i64 d.off, .int .i64 d.many, .slice d.ad d.l.length d.c, .bool od] 64) = w1 := ⟨_, rfl⟩
  rw [hw1] at f1 h1
  have G1 := hidI (G.quiet f1)
  have T1 := hidI (T.quiet f1)
  have OK := hidI (ok.kept f1)
  have d1 := cell_of_row w1 db 1 _ _ _ h1
  have m0 : w1.cell? ⟨mb, 0, none⟩ = some (.slice aN pgn cN) := G1.out.mc rfl
  have D1 := hidI h1
  have FW1 := hidI f1
  clear G T ok f1 h1
  obtain ⟨is, his⟩ : ∃ is : Bool, is = (decide (0 ≤ pq) && decide (pq < (pgn : Int))) := ⟨_, rfl⟩
  have HIS := hidI his
  clear his
  go_enter Tryz.func92, Tryz.ntmps92
  go_upto_region 1 with fail
  go_cut [7] from 16 (fun s7 wx => s7 = .bool is ∧ Fr [] w1 wx)
  case first =>
    have e := HIS.out
    by_cases q0 : 0 ≤ pq
    · by_cases q1 : pq < (pgn : Int)
      · rw [decide_eq_true q0, decide_eq_true q1] at e
        go_quiet (fail)
        go_wp2_with fail
        go_meet
        exact ⟨by rw [e]; rfl, (Fr.refl [] w1).drewN nq⟩
      · rw [decide_eq_true q0, decide_eq_false q1] at e
        go_quiet (fail)
        go_wp2_with fail
        go_meet
        exact ⟨by rw [e]; rfl, (Fr.refl [] w1).drewN nq⟩
    · rw [decide_eq_false q0] at e
      go_quiet (fail)
      go_wp2_with fail
      go_meet
      exact ⟨by rw [e]; rfl, (Fr.refl [] w1).drewN nq⟩
  case rest =>
    obtain ⟨rfl, f2⟩ := hcut
    have G2 := hidI (G1.out.quiet f2)
    have T2 := hidI (T1.out.quiet f2)
    have OK2 := hidI (OK.out.kept f2)
    have D2 := hidI (f2.same (by simp) D1.out)
    have FW2 := hidI (FW1.out.trans f2)
    clear FW1
    clear G1 T1 OK D1 d1 m0
    generalize wc = w2 at *
    have d1 : w2.cell? ⟨db, 1, none⟩ = some (.int .i64 pq) := cell_of_row w2 db 1 _ _ _ D2.out
    have d4 : w2.cell? ⟨db, 4, none⟩ = some (.slice d.ad d.l.length d.c) := cell_of_row w2 db 4 _ _ _ D2.out
    have d5 : w2.cell? ⟨db, 5, none⟩ = some (.bool od) := cell_of_row w2 db 5 _ _ _ D2.out
    have m0 : w2.cell? ⟨mb, 0, none⟩ = some (.slice aN pgn cN) := G2.out.mc rfl
    cases is with
    | false =>
      have hpg := HIS.out
      have q0 : pq < 0 ∨ (pgn : Int) ≤ pq := by
        by_cases h0 : pq < 0
        · exact Or.inl h0
        · refine Or.inr (Int.not_lt.1 fun h1 => ?_)
          rw [decide_eq_true (show 0 ≤ pq by omega), decide_eq_true h1] at hpg
          cases hpg
      obtain ⟨L, hLL⟩ : ∃ L : Nat, d.l.length = L := ⟨_, rfl⟩
      rw [hLL] at d4 h1000 ⊢
      have HL := hidI hLL
      have m3 : w2.cell? ⟨mb, 3, none⟩ = some (.int .i64 ow) := G2.out.mc rfl
      go_upto_region 6 with fail
      go_quiet (fail)
      obtain ⟨w4, hw4⟩ : ∃ w4, w2.drewN nq = w4 := ⟨_, rfl⟩
      have f4 : Fr [] w2 w4 := by rw [← hw4]; exact (Fr.refl [] w2).drewN nq
      rw [hw4]
      have G4 := hidI (G2.out.quiet f4)
      have D4 := hidI (f4.same (by simp) D2.out)
      have FW4 := hidI (FW2.out.trans f4)
      have HA4 : Hid (Pg.SlAt w4 d.ad L d.c d.l) := hidI ⟨hLL, OK2.out.b.kept f4 (by simp), by rw [← hLL]; exact OK2.out.k⟩
      have HN4 := hidI (fun e => (OK2.out.n e).2 : d.ad = none → d.c = 0)
      have m2 : w4.cell? ⟨mb, 2, none⟩ = some (.bool i) := G4.out.mc rfl
      have LX := clent_any w4 d.ad L d.c d.l HA4.out HN4.out (by omega)
      clear G2 T2 OK2 D2 d1 d4 d5 m0 m3 hpg HIS HOD hdb hw1 f2 FW2 hLL HDN f4 hw4
      rcases OIH.out with ⟨rfl, O⟩ | ⟨rfl, eW, U, H, rfl, rfl, rfl, I⟩
      · have O5 := hidI (O.quiet FW4.out)
        have hst : b.t.st = 0 := by rw [O.idle.t]; rfl
        clear OIH O
        go_upto_region 24 with (go_at_call 178; refine LX.mono ?_; rintro e6 w6 ⟨g, cap, rfl, L6, hg6, f6⟩)
        have PX := cput_out ((O5.out.g.quiet f6).quiet (Fr.refl [] w6).drew).ab hst pq (.slice (some ⟨g, 0, none⟩) L cap)
        have KC : Hid (∀ w', Fr [] w6 w' → w'.cell? ⟨rg, 3, none⟩ = some (.pointer (some ⟨bp, 0, none⟩)) ∧ w'.cell? ⟨db, 1, none⟩ = some (.int .i64 pq)) := hidI (fun w' f => ⟨((G4.out.quiet f6).quiet f).c3, cell_of_row w' db 1 _ _ _ ((f6.trans f).same (by simp) D4.out)⟩)
        have L6' := hidI L6
        have HB6 : Hid (BytesAt w6 d.ad d.l) := hidI ((show BytesAt w4 d.ad d.l from HA4.out.bytes).kept f6 (by simp))
        have F6 := hidI f6
        clear L6 f6 LX m2
        go_region_held3 (fun w' => w'.cell? ⟨rg, 3, none⟩ = some (.pointer (some ⟨bp, 0, none⟩)) ∧ w'.cell? ⟨db, 1, none⟩ = some (.int .i64 pq)) (first | exact KC.out _ (Fr.refl [] w6).drew | exact KC.out _ (Fr.refl [] w6) | exact KK | exact KL) ((first
          | (go_at_call 31; refine PX.mono ?_; rintro e7 w7 ⟨rfl, f7⟩; have F7 : Hid (Fr [] w6 w7) := hidI ((Fr.refl [] w6).drew.trans f7); have KK := KC.out _ F7.out)
          | (go_at_call 180; refine (kept_any w7 g cap L d.c d.ad d.l HL.out (by omega) (L6'.out.kept F7.out (by simp)) (HB6.out.kept F7.out (by simp))).mono ?_; rintro e8 w8 ⟨rfl, f8⟩; have KL := KC.out _ (F7.out.trans f8))))
        have OX := over_any w8 g cap L d.l HL.out (by omega) ((L6'.out.kept F7.out (by simp)).kept f8 (by simp))
        have F8 := hidI ((F6.out.trans F7.out).trans f8)
        clear KK KL KC L6' HB6 F6 F7 f7 f8 PX
        go_wp2_with (go_at_call 181; refine OX.mono ?_; rintro e9 w9 ⟨rfl, f9⟩; have F9 := hidI (F8.out.then f9 (fun i hi hm => by simp at hm; omega)); clear f9)
        go_ret
        exact ⟨rfl, hidI ((O5.out.quiet F9.out).le (by omega) (by omega)).cd⟩
      · have I5 := hidI (I.quiet FW4.out)
        have hst : b.t.st = 1 := I.tx.st
        have hpgs : b.x.pages = pgn := I.g.pg
        clear OIH I
        go_upto_region 24 with (go_at_call 178; refine LX.mono ?_; rintro e6 w6 ⟨g, cap, rfl, L6, hg6, f6⟩)
        have PX := cput_none ((I5.out.g.quiet f6).quiet (Fr.refl [] w6).drew).ab hst pq (by rw [hpgs]; exact q0) (.slice (some ⟨g, 0, none⟩) L cap)
        have KC : Hid (∀ w', Fr [] w6 w' → w'.cell? ⟨rg, 3, none⟩ = some (.pointer (some ⟨bp, 0, none⟩)) ∧ w'.cell? ⟨db, 1, none⟩ = some (.int .i64 pq)) := hidI (fun w' f => ⟨((G4.out.quiet f6).quiet f).c3, cell_of_row w' db 1 _ _ _ ((f6.trans f).same (by simp) D4.out)⟩)
        have L6' := hidI L6
        have HB6 : Hid (BytesAt w6 d.ad d.l) := hidI ((show BytesAt w4 d.ad d.l from HA4.out.bytes).kept f6 (by simp))
        have F6 := hidI f6
        clear L6 f6 LX m2
        go_region_held3 (fun w' => w'.cell? ⟨rg, 3, none⟩ = some (.pointer (some ⟨bp, 0, none⟩)) ∧ w'.cell? ⟨db, 1, none⟩ = some (.int .i64 pq)) (first | exact KC.out _ (Fr.refl [] w6).drew | exact KC.out _ (Fr.refl [] w6) | exact KK | exact KL) ((first
          | (go_at_call 31; refine PX.mono ?_; rintro e7 w7 ⟨rfl, f7⟩; have F7 : Hid (Fr [] w6 w7) := hidI ((Fr.refl [] w6).drew.trans f7); have KK := KC.out _ F7.out)
          | (go_at_call 180; refine (kept_any w7 g cap L d.c d.ad d.l HL.out (by omega) (L6'.out.kept F7.out (by simp)) (HB6.out.kept F7.out (by simp))).mono ?_; rintro e8 w8 ⟨rfl, f8⟩; have KL := KC.out _ (F7.out.trans f8))))
        have OX := over_any w8 g cap L d.l HL.out (by omega) ((L6'.out.kept F7.out (by simp)).kept f8 (by simp))
        have F8 := hidI ((F6.out.trans F7.out).trans f8)
        clear KK KL KC L6' HB6 F6 F7 f7 f8 PX
        go_wp2_with (go_at_call 181; refine OX.mono ?_; rintro e9 w9 ⟨rfl, f9⟩; have F9 := hidI (F8.out.then f9 (fun i hi hm => by simp at hm; omega)); clear f9)
        go_ret
        exact ⟨rfl, hidI ((I5.out.quiet F9.out).le (by omega) (by omega)).cd⟩
    | true =>
      go_upto_if 36 with fail
      go_cut [8] from 9 (fun s8 wx => ∃ (a : Option Addr) (n c : Nat) (l : List UInt8), s8 = .slice a n c ∧ n ≤ 1000 ∧ Hid (Pg.SlAt wx a n c l ∧ (a = none → c = 0)) ∧ Hid (l = [] ∨ ∀ bb off, a = some ⟨bb, off, none⟩ → bb ∉ b.dp :: b.x.own) ∧ Hid (Fr [] w2 wx))
      case first =>
        cases od with
        | true =>
          go_wp2_with fail
          go_meet
          exact ⟨_, _, _, d.l, rfl, h1000, hidI ⟨⟨rfl, OK2.out.b, OK2.out.k⟩, fun e => (OK2.out.n e).2⟩, HDN, hidI (Fr.refl _ _)⟩
        | false =>
          have hpg := HIS.out
          have q0 : 0 ≤ pq ∧ pq < (pgn : Int) := by
            simp at hpg
            exact hpg
          obtain ⟨q, rfl⟩ : ∃ q : Nat, pq = (q : Int) := ⟨pq.toNat, by omega⟩
          have hqn : q < pgn := by omega
          obtain ⟨tb, e, rfl, he, hc⟩ := T2.out.t.at q hqn
          obtain ⟨hr, hl, _⟩ := T2.out.t.blk q e he
          have WX := written_any w2.drew e.1 e.2 (V q) hl (hr.bytes.kept (Fr.refl [] w2).drew (by simp)) (by have := hr.cap; omega) d (OK2.out.kept (Fr.refl [] w2).drew)
          rw [HOD.out.1, HOD.out.2] at WX
          have KC : Hid (∀ w', Fr [] w2 w' → w'.cell? ⟨mb, 0, none⟩ = some (.slice (some ⟨tb, 0, none⟩) pgn cN) ∧ w'.cell? ⟨db, 1, none⟩ = some (.int .i64 (q : Int)) ∧ w'.cell? ⟨tb, q, none⟩ = some (.slice (some ⟨e.1, 0, none⟩) 512 e.2) ∧ w'.cell? ⟨db, 0, none⟩ = some (.int .i64 d.kind) ∧ w'.cell? ⟨db, 2, none⟩ = some (.int .i64 d.off) ∧ w'.cell? ⟨db, 3, none⟩ = some (.int .i64 d.many) ∧ w'.cell? ⟨db, 4, none⟩ = some (.slice d.ad d.l.length d.c) ∧ w'.cell? ⟨db, 5, none⟩ = some (.bool false)) := hidI (fun w' f => by
            have hD := f.same (by simp) D2.out
            refine ⟨(G2.out.quiet f).mc rfl, cell_of_row w' db 1 _ _ _ hD, ?_, cell_of_row w' db 0 _ _ _ hD, cell_of_row w' db 2 _ _ _ hD, cell_of_row w' db 3 _ _ _ hD, cell_of_row w' db 4 _ _ _ hD, cell_of_row w' db 5 _ _ _ hD⟩
            obtain ⟨tb', e', ha, he', hc'⟩ := (T2.out.t.quiet f).at q hqn
            cases ha
            rw [he] at he'
            cases he'
            exact hc')
          have k0 : (0 : Int) ≤ (q : Int) := by omega
          have k1 : (q : Int) < (pgn : Int) := by omega
          clear hpg q0 hc he hr hl hdb hw1 f2
          go_wp2_with fail
          go_region_held3 (fun w' => w'.cell? ⟨mb, 0, none⟩ = some (.slice (some ⟨tb, 0, none⟩) pgn cN) ∧ w'.cell? ⟨db, 1, none⟩ = some (.int .i64 (q : Int)) ∧ w'.cell? ⟨tb, q, none⟩ = some (.slice (some ⟨e.1, 0, none⟩) 512 e.2) ∧ w'.cell? ⟨db, 0, none⟩ = some (.int .i64 d.kind) ∧ w'.cell? ⟨db, 2, none⟩ = some (.int .i64 d.off) ∧ w'.cell? ⟨db, 3, none⟩ = some (.int .i64 d.many) ∧ w'.cell? ⟨db, 4, none⟩ = some (.slice d.ad d.l.length d.c) ∧ w'.cell? ⟨db, 5, none⟩ = some (.bool false)) (first | exact KC.out _ (Fr.refl [] w2).drew | exact KC.out _ (Fr.refl [] w2) | exact KK) ((first
            | (go_at_call 41; refine WX.mono ?_; rintro e9 w9 ⟨g9, c9, rfl, P9⟩; have F9 : Hid (Fr [] w2 w9) := (hidI (by (obtain ⟨_, _, _, _, f9⟩ := P9.out; exact (Fr.refl [] w2).drew.trans f9))); have KK := KC.out _ F9.out)))
          go_wp2_with fail
          go_meet
          obtain ⟨l9, r9, n9, hg9, f9⟩ := P9.out
          exact ⟨_, _, _, l9, rfl, by decide, hidI ⟨⟨n9, r9.bytes, by have := r9.cap; omega⟩, fun e => nomatch e⟩, hidI (Or.inr (fun bb off ha hm => by
            cases ha
            have h1 := (G2.out.ab.bk.lt g9 (by rcases List.mem_cons.1 hm with e | e <;> simp [e]))
            have h2 : w2.heap.size ≤ g9 := hg9
            omega)), F9⟩
      case rest =>
        obtain ⟨a, n, c, l, rfl, hn, HA, HAN, F3⟩ := hcut
        have G3 := hidI (G2.out.quiet F3.out)
        have T3 := hidI (T2.out.quiet F3.out)
        have D3 := hidI (F3.out.same (by simp) D2.out)
        have FW3 := hidI (FW2.out.trans F3.out)
        clear FW2
        have hpg := HIS.out
        have q0 : 0 ≤ pq ∧ pq < (pgn : Int) := by
          simp at hpg
          exact hpg
        obtain ⟨q, rfl⟩ : ∃ q : Nat, pq = (q : Int) := ⟨pq.toNat, by omega⟩
        have hqn : q < pgn := by omega
        clear G2 T2 OK2 D2 d1 d4 d5 m0 hpg q0 HIS HOD hdb hw1 f2 F3
        generalize wc = w3 at *
        have m3 : w3.cell? ⟨mb, 3, none⟩ = some (.int .i64 ow) := G3.out.mc rfl
        go_upto_region 6 with fail
        go_quiet (fail)
        obtain ⟨w4, hw4⟩ : ∃ w4, w3.drewN nq = w4 := ⟨_, rfl⟩
        have f4 : Fr [] w3 w4 := by rw [← hw4]; exact (Fr.refl [] w3).drewN nq
        rw [hw4]
        have G4 := hidI (G3.out.quiet f4)
        have T4 := hidI (T3.out.quiet f4)
        have D4 := hidI (f4.same (by simp) D3.out)
        have FW4 := hidI (FW3.out.trans f4)
        clear FW3
        have HA4 : Hid (Pg.SlAt w4 a n c l ∧ (a = none → c = 0)) := hidI ⟨⟨HA.out.1.len, (show BytesAt w3 a l from HA.out.1.bytes).kept f4 (by simp), HA.out.1.cap⟩, HA.out.2⟩
        clear G3 T3 D3 HA m3 hw4 f4
        go_upto_if 56 with fail
        go_cut [10, 11, 12] from 13 (fun s10 s11 s12 wx => ∃ sz oo sp : Int, s10 = .int .i64 sz ∧ s11 = .int .i64 oo ∧ s12 = .int .i64 sp ∧ 0 ≤ sz + (oo - ow) ∧ sz + (oo - ow) ≤ 5720 ∧ Hid (n = 512 → ∃ S : List SpE, S.map (fun e => (e.off, e.off + e.n)) = diffS (V q) l ∧ sz = (logN S : Int) ∧ oo = ow + undN S ∧ sp = (S.length : Int)) ∧ Hid (Fr [] w4 wx))
        case first =>
          by_cases hn5 : n = 512
          · subst hn5
            obtain ⟨g, o, rfl, H5⟩ := HA4.out.1.at512 rfl
            obtain ⟨tb, e, rfl, he, hc⟩ := T4.out.t.at q hqn
            obtain ⟨hr, hl, _⟩ := T4.out.t.blk q e he
            have DX := hidI (Pg.diff_512r w4.drew e.1 0 e.2 g o c (V q) l ⟨hl, hr.bytes.kept (Fr.refl [] w4).drew (by simp), by have := hr.cap; omega⟩ ⟨H5.len, (show BytesAt w4 (some ⟨g, o, none⟩) l from H5.bytes).kept (Fr.refl [] w4).drew (by simp), H5.cap⟩)
            have KC : Hid (∀ w', Fr [] w4 w' → w'.cell? ⟨mb, 0, none⟩ = some (.slice (some ⟨tb, 0, none⟩) pgn cN) ∧ w'.cell? ⟨db, 1, none⟩ = some (.int .i64 (q : Int)) ∧ w'.cell? ⟨tb, q, none⟩ = some (.slice (some ⟨e.1, 0, none⟩) 512 e.2)) := hidI (fun w' f => by
              have hD := f.same (by simp) D4.out
              refine ⟨(G4.out.quiet f).mc rfl, cell_of_row w' db 1 _ _ _ hD, ?_⟩
              obtain ⟨tb', e', ha, he', hc'⟩ := (T4.out.t.quiet f).at q hqn
              cases ha
              rw [he] at he'
              cases he'
              exact hc')
            have k0 : (0 : Int) ≤ (q : Int) := by omega
            have k1 : (q : Int) < (pgn : Int) := by omega
            clear hc he hr hl H5
            go_wp2_with fail
            go_region_held3 (fun w' => w'.cell? ⟨mb, 0, none⟩ = some (.slice (some ⟨tb, 0, none⟩) pgn cN) ∧ w'.cell? ⟨db, 1, none⟩ = some (.int .i64 (q : Int)) ∧ w'.cell? ⟨tb, q, none⟩ = some (.slice (some ⟨e.1, 0, none⟩) 512 e.2)) (first | exact KC.out _ (Fr.refl [] w4).drew | exact KC.out _ (Fr.refl [] w4) | exact KK) ((first
              | (go_at_call 192; refine DX.out.mono ?_; rintro e9 w9 ⟨AD, N, CAP, S, rfl, hS, own, _, f9, _⟩; have F9 : Hid (Fr [] w4 w9) := hidI ((Fr.refl [] w4).drew.trans (fr_pg f9)); have KK := KC.out _ F9.out; have HS := hidI (And.intro hS (spans_cells own)); clear hS own f9)))
            have hN : S.length = N := HS.out.2.1
            have hB := spans_bound HS.out.1
            have hsn := sumN_eq S
            have hun := undN_nonneg S
            have HN := hidI (And.intro hN (And.intro hB (And.intro hsn hun)))
            clear KK DX KC k0 k1 hN hB hsn hun
            have hN57 : N ≤ 57 := by
              have h1 := HN.out.1
              have h2 := HN.out.2.1.1
              omega
            go_wp2_with fail
            go_loopw [10, 11, 14] (fun s10 s11 s14 wx => ∃ (k : Nat) (z u : Int), s10 = .int .i64 z ∧ s11 = .int .i64 u ∧ s14 = .int .i64 (k : Int) ∧ k ≤ N ∧ 0 ≤ z ∧ z ≤ 6000 ∧ 0 ≤ u ∧ u ≤ 506000 ∧ Hid (z = (logN (S.take k) : Int) ∧ u = ow + undN (S.take k)) ∧ Hid (Fr [] w9 wx)) (fun _ _ s14 _ => N - (intOf s14).toNat)
            case atStart => exact ⟨0, 0, ow, rfl, rfl, rfl, by omega, by omega, by omega, by omega, by omega, hidI ⟨by simp [logN], by simp [undN]⟩, hidI (Fr.refl _ _)⟩
            case round =>
              obtain ⟨k, z, u, rfl, rfl, rfl, hk, z0, z1, u0, u1, HZ, FZ⟩ := hrel
              by_cases hlt : k < N
              · have q1 : (k : Int) < (N : Int) := by omega
                have q0 : (0 : Int) ≤ (k : Int) := by omega
                obtain ⟨x, hx⟩ : ∃ x, S[k]? = some x := ⟨_, List.getElem?_eq_getElem (by have := HN.out.1; omega)⟩
                obtain ⟨sg, hAD, x0, x1, x2, x3⟩ := HS.out.2.2 _ FZ.out k x hx
                subst hAD
                have HC : Hid (∀ w', Fr [] w9 w' → w'.cell? ⟨sg, k * 4, none⟩ = some (.int .i64 0) ∧ w'.cell? ⟨sg, k * 4 + 1, none⟩ = some (.int .i64 (x.off : Int)) ∧ w'.cell? ⟨sg, k * 4 + 2, none⟩ = some (.slice (some ⟨x.bo, 0, none⟩) x.n x.n) ∧ w'.cell? ⟨sg, k * 4 + 3, none⟩ = some (.slice (some ⟨x.bn, 0, none⟩) x.n x.n)) := hidI (fun w' f => by
                  obtain ⟨sg', e1, y⟩ := HS.out.2.2 w' f k x hx
                  cases e1
                  exact y)
                have hxn : x.n ≤ 512 := HN.out.2.1.2.2 x (List.mem_of_getElem? hx)
                have e1 : IntKind.i64.wrap (z + (43 + 2 * (x.n : Int))) = z + (43 + 2 * (x.n : Int)) := wrapI _ (by omega) (by omega)
                have e2 : IntKind.i64.wrap (u + (51 + (x.n : Int))) = u + (51 + (x.n : Int)) := wrapI _ (by omega) (by omega)
                have HX := hidI hx
                have hzu : z + (43 + 2 * (x.n : Int)) ≤ 6000 ∧ u + (51 + (x.n : Int)) ≤ 506000 := by
                  have h1 := logN_take S hx
                  have h2 := undN_take S hx
                  have h3 := logN_le S (k + 1)
                  have h4 := undN_le S (k + 1)
                  have h5 := HN.out
                  have h6 := HZ.out
                  omega
                clear hx
                go_wp2_with (first
                  | (go_at_call 193; refine (psize_any _ _ _ _ _ _ _ _ _ (by omega)).mono ?_; rintro e5 w5 ⟨rfl, f5⟩; obtain ⟨y0, y1, y2, y3⟩ := HC.out _ (FZ.out.trans f5))
                  | (go_at_call 194; refine (pundo_any _ _ _ _ _ _ _ _ _ (by omega)).mono ?_; rintro e6 w6 ⟨rfl, f6⟩))
                refine ⟨⟨k + 1, _, _, rfl, rfl, by go_num, by omega, by omega, by omega, by omega, by omega, hidI ⟨?_, ?_⟩, hidI ((FZ.out.trans f5).trans f6)⟩, by simp [intOf]; omega⟩
                · rw [logN_take S HX.out]
                  have := HZ.out.1
                  push_cast
                  omega
                · rw [undN_take S HX.out]
                  have := HZ.out.2
                  omega
              · have q1 : ¬ (k : Int) < (N : Int) := by omega
                obtain rfl : k = N := by omega
                go_wp2_with fail
                go_meet
                have h5 := HN.out
                have h6 := HZ.out
                rw [List.take_of_length_le (by omega)] at h6
                exact ⟨z, u, (k : Int), rfl, rfl, rfl, by omega, by omega, hidI (fun _ => ⟨S, HS.out.1, h6.1, h6.2, by omega⟩), hidI (F9.out.trans FZ.out)⟩
          · have hb : ((n : Int) == 512) = false := by simp; omega
            go_wp2_with fail
            go_meet
            exact ⟨0, ow, 0, rfl, rfl, rfl, by omega, by omega, hidI (fun e => (hn5 e).elim), hidI (Fr.refl _ _)⟩
        case rest =>
          obtain ⟨sz, oo, sp, rfl, rfl, rfl, hz0, hz1, HS, F5⟩ := hcut
          have G5 := hidI (G4.out.quiet F5.out)
          have T5 := hidI (T4.out.quiet F5.out)
          have D5 := hidI (F5.out.same (by simp) D4.out)
          have FW5 := hidI (FW4.out.trans F5.out)
          have HA5 : Hid (Pg.SlAt wc a n c l ∧ (a = none → c = 0)) := hidI ⟨⟨HA4.out.1.len, (show BytesAt w4 a l from HA4.out.1.bytes).kept F5.out (by simp), HA4.out.1.cap⟩, HA4.out.2⟩
          clear G4 T4 D4 FW4 HA4 F5
          generalize wc = w5 at *
          have m2 : w5.cell? ⟨mb, 2, none⟩ = some (.bool i) := G5.out.mc rfl
          have r1 : w5.cell? ⟨rg, 1, none⟩ = some (.pointer (some ⟨ll, 0, none⟩)) := G5.out.c1
          have LX := clent_any w5 a n c l HA5.out.1 HA5.out.2 hn
          rcases OIH.out with ⟨rfl, O⟩ | ⟨rfl, eW, U, H, rfl, rfl, rfl, I⟩
          · have O5 := hidI (O.quiet FW5.out)
            have hst : b.t.st = 0 := by rw [O.idle.t]; rfl
            clear OIH O
            go_upto_region 24 with (go_at_call 178; refine LX.mono ?_; rintro e6 w6 ⟨g, cap, rfl, L6, hg6, f6⟩)
            have PX := cput_out ((O5.out.g.quiet f6).quiet (Fr.refl [] w6).drew).ab hst (q : Int) (.slice (some ⟨g, 0, none⟩) n cap)
            have KC : Hid (∀ w', Fr [] w6 w' → w'.cell? ⟨rg, 3, none⟩ = some (.pointer (some ⟨bp, 0, none⟩)) ∧ w'.cell? ⟨db, 1, none⟩ = some (.int .i64 (q : Int))) := hidI (fun w' f => ⟨((G5.out.quiet f6).quiet f).c3, cell_of_row w' db 1 _ _ _ ((f6.trans f).same (by simp) D5.out)⟩)
            have L6' := hidI L6
            have HB6 : Hid (BytesAt w6 a l) := hidI ((show BytesAt w5 a l from HA5.out.1.bytes).kept f6 (by simp))
            have F6 := hidI f6
            clear L6 f6 LX m2 r1
            go_region_held3 (fun w' => w'.cell? ⟨rg, 3, none⟩ = some (.pointer (some ⟨bp, 0, none⟩)) ∧ w'.cell? ⟨db, 1, none⟩ = some (.int .i64 (q : Int))) (first | exact KC.out _ (Fr.refl [] w6).drew | exact KC.out _ (Fr.refl [] w6) | exact KK | exact KL) ((first
              | (go_at_call 31; refine PX.mono ?_; rintro e7 w7 ⟨rfl, f7⟩; have F7 : Hid (Fr [] w6 w7) := hidI ((Fr.refl [] w6).drew.trans f7); have KK := KC.out _ F7.out)
              | (go_at_call 180; refine (kept_any w7 g cap n c a l HA5.out.1.len (by omega) (L6'.out.kept F7.out (by simp)) (HB6.out.kept F7.out (by simp))).mono ?_; rintro e8 w8 ⟨rfl, f8⟩; have KL := KC.out _ (F7.out.trans f8))))
            have OX := over_any w8 g cap n l HA5.out.1.len (by omega) ((L6'.out.kept F7.out (by simp)).kept f8 (by simp))
            have F8 := hidI ((F6.out.trans F7.out).trans f8)
            clear KK KL KC L6' HB6 F6 F7 f7 f8 PX
            go_wp2_with (go_at_call 181; refine OX.mono ?_; rintro e9 w9 ⟨rfl, f9⟩; have F9 := hidI (F8.out.then f9 (fun i hi hm => by simp at hm; omega)); clear f9)
            go_ret
            exact ⟨rfl, hidI ((O5.out.quiet F9.out).le (by omega) (by omega)).cd⟩
          · have I5 := hidI (I.quiet FW5.out)
            have hst : b.t.st = 1 := I.tx.st
            have hph : phN b H ≤ p := I.ph
            have hbE : (b.x.y.E : Int) + keptOf H ≤ p := hph
            clear OIH I
            have hpgs : b.x.pages = pgn := I5.out.g.pg
            by_cases hn5 : n = 512
            · subst hn5
              obtain ⟨S, hS, hsz, hoo, hsp⟩ := HS.out rfl
              have hsum := sumN_eq S
              obtain ⟨rm, hrm⟩ : ∃ rm : Int, b.room = rm := ⟨_, rfl⟩
              obtain ⟨tot, htot⟩ : ∃ tot : Int, keptOf H + 35 + sumN S = tot := ⟨_, rfl⟩
              have hkn := keptOf_nonneg H
              have hun := undN_nonneg S
              have hE0 : (0 : Int) ≤ (b.x.y.E : Int) := by omega
              have ew : IntKind.i64.wrap (sz + oo) = tot := by rw [wrapI _ (by omega) (by omega)]; omega
              have RX := G5.out.room
              rw [hrm] at RX
              by_cases hf : rm < tot
              · have hlt : rm < tot := hf
                rw [← hrm, ← htot] at hf
                have HSS := hidI (And.intro hsz (And.intro hoo (And.intro hsp (And.intro hsum (And.intro htot hrm)))))
                clear hsz hoo hsp hsum htot hrm hkn hun HS hE0 hbE
                go_upto_region 24 with (first
                  | (go_at_call 89; refine RX.mono ?_; rintro e4 wr ⟨rfl, fr⟩; have LR := clent_any wr a 512 c l ⟨HA5.out.1.len, (show BytesAt w5 a l from HA5.out.1.bytes).kept fr (by simp), HA5.out.1.cap⟩ HA5.out.2 (by omega))
                  | (go_at_call 178; refine LR.mono ?_; rintro e6 w6 ⟨g, cap, rfl, L6, hg6', f6'⟩))
                have f6 : Fr [] w5 w6 := fr.trans f6'
                have hg6 : w5.heap.size ≤ g := Nat.le_trans fr.size hg6'
                have hgo : g ∉ b.dp :: b.x.own := fun hm => by
                  have h1 := G5.out.ab.bk.lt g (by rcases List.mem_cons.1 hm with e | e <;> simp [e])
                  omega
                have hdb5 : db ∉ b.dp :: b.x.own := (G5.out.ab.bk.away D5.out (by decide) (by decide) (by decide) (by decide)).2.1
                have PX := hidI (((I5.out.quiet f6).quiet (Fr.refl [] w6).drew).putF hqn (by omega) (L6.kept (Fr.refl [] w6).drew (by simp)) HA5.out.1.len hgo hS hf)
                have KC : Hid (∀ w', Fr [] w6 w' → w'.cell? ⟨rg, 3, none⟩ = some (.pointer (some ⟨bp, 0, none⟩)) ∧ w'.cell? ⟨db, 1, none⟩ = some (.int .i64 (q : Int))) := hidI (fun w' f => ⟨((G5.out.quiet f6).quiet f).c3, cell_of_row w' db 1 _ _ _ ((f6.trans f).same (by simp) D5.out)⟩)
                have D6 := hidI ((f6.trans (Fr.refl [] w6).drew).same (by simp) D5.out)
                have L6' := hidI (L6.kept (Fr.refl [] w6).drew (by simp))
                have HB6 : Hid (BytesAt w6.drew a l) := hidI (((show BytesAt w5 a l from HA5.out.1.bytes).kept f6 (by simp)).kept (Fr.refl [] w6).drew (by simp))
                have F6 := hidI f6
                have HGO := hidI (And.intro hgo (And.intro hg6 L6.lt))
                clear L6 f6 f6' fr hg6' LR RX m2 r1 ew hf hgo hg6 LX
                go_region_held3 (fun w' => w'.cell? ⟨rg, 3, none⟩ = some (.pointer (some ⟨bp, 0, none⟩)) ∧ w'.cell? ⟨db, 1, none⟩ = some (.int .i64 (q : Int))) (first | exact KC.out _ (Fr.refl [] w6).drew | exact KC.out _ (Fr.refl [] w6) | exact KK | exact KL) ((first
                  | (go_at_call 31; refine PX.out.mono ?_; rintro e7 w7 ⟨rfl, b7, P7⟩; have D7 : Hid (w7.heap[db]? = some (Obj.cells #[.int .i64 d.kind, .int .i64 (q : Int), .int .i64 d.off, .int .i64 d.many, .slice d.ad d.l.length d.c, .bool od] 64)) := hidI (P7.out.2.fr.same hdb5 D6.out); have KK : w7.cell? ⟨rg, 3, none⟩ = some (.pointer (some ⟨bp, 0, none⟩)) ∧ w7.cell? ⟨db, 1, none⟩ = some (.int .i64 (q : Int)) := ⟨P7.out.1.g.c3, cell_of_row w7 db 1 _ _ _ D7.out⟩)
                  | (go_at_call 180; refine (kept_any w7 g cap 512 c a l HA5.out.1.len (by omega) (L6'.out.kept P7.out.2.fr HGO.out.1) (bytes_step HB6.out HAN.out P7.out.2)).mono ?_; rintro e8 w8 ⟨rfl, f8⟩; have KL : w8.cell? ⟨rg, 3, none⟩ = some (.pointer (some ⟨bp, 0, none⟩)) ∧ w8.cell? ⟨db, 1, none⟩ = some (.int .i64 (q : Int)) := ⟨(P7.out.1.quiet f8).g.c3, cell_of_row w8 db 1 _ _ _ (f8.same (by simp) D7.out)⟩)))
                have L8 := ((L6'.out.kept P7.out.2.fr HGO.out.1).kept f8 (by simp))
                have OX := over_any w8 g cap 512 l HA5.out.1.len (by omega) L8
                have X8 := hidI (And.intro L8.ex (And.intro (P7.out.2.out HGO.out.1 (by simpa using HGO.out.2.2)) (P7.out.1.quiet f8)))
                have B8 : Hid (BytesAt w8 a l) := hidI ((bytes_step HB6.out HAN.out P7.out.2).kept f8 (by simp))
                have D8 := hidI (f8.same (by simp) D7.out)
                clear KK KL KC L8 L6' HB6 PX f8 D6 D7
                go_wp2_with (go_at_call 181; refine OX.mono ?_; rintro e9 w9 ⟨rfl, f9⟩; have F9 := hidI f9; clear f9)
                go_ret
                obtain ⟨⟨cur, hcur, _⟩, ho7, I8⟩ := X8.out
                have hs0 : w0.heap.size ≤ g := Nat.le_trans G5.out.ab.fr.size HGO.out.2.1
                exact ⟨rfl, hidI (I8.over F9.out hcur ho7 hs0 (fun x hx e => by
                  have h1 := I5.out.tn.below x hx
                  have h2 := HGO.out.2.1
                  omega) (fun x hx e => by
                  have h1 := I5.out.tw.below x hx
                  have h2 := HGO.out.2.1
                  omega)).cd⟩
              · have hlt : ¬ rm < tot := hf
                rw [← hrm, ← htot] at hf
                have HSS := hidI (And.intro hsz (And.intro hoo (And.intro hsp (And.intro hsum (And.intro htot hrm)))))
                clear hsz hoo hsp hsum htot hrm hkn hun HS hE0 hbE
                go_upto_region 24 with (first
                  | (go_at_call 89; refine RX.mono ?_; rintro e4 wr ⟨rfl, fr⟩; have LR := clent_any wr a 512 c l ⟨HA5.out.1.len, (show BytesAt w5 a l from HA5.out.1.bytes).kept fr (by simp), HA5.out.1.cap⟩ HA5.out.2 (by omega))
                  | (go_at_call 178; refine LR.mono ?_; rintro e6 w6 ⟨g, cap, rfl, L6, hg6', f6'⟩))
                have f6 : Fr [] w5 w6 := fr.trans f6'
                have hg6 : w5.heap.size ≤ g := Nat.le_trans fr.size hg6'
                have hgo : g ∉ b.dp :: b.x.own := fun hm => by
                  have h1 := G5.out.ab.bk.lt g (by rcases List.mem_cons.1 hm with e | e <;> simp [e])
                  omega
                have hdb5 : db ∉ b.dp :: b.x.own := (G5.out.ab.bk.away D5.out (by decide) (by decide) (by decide) (by decide)).2.1
                have PX := hidI (((I5.out.quiet f6).quiet (Fr.refl [] w6).drew).putO hqn (by omega) (L6.kept (Fr.refl [] w6).drew (by simp)) HA5.out.1.len hgo hS (by omega))
                have KC : Hid (∀ w', Fr [] w6 w' → w'.cell? ⟨rg, 3, none⟩ = some (.pointer (some ⟨bp, 0, none⟩)) ∧ w'.cell? ⟨db, 1, none⟩ = some (.int .i64 (q : Int))) := hidI (fun w' f => ⟨((G5.out.quiet f6).quiet f).c3, cell_of_row w' db 1 _ _ _ ((f6.trans f).same (by simp) D5.out)⟩)
                have D6 := hidI ((f6.trans (Fr.refl [] w6).drew).same (by simp) D5.out)
                have L6' := hidI (L6.kept (Fr.refl [] w6).drew (by simp))
                have HB6 : Hid (BytesAt w6.drew a l) := hidI (((show BytesAt w5 a l from HA5.out.1.bytes).kept f6 (by simp)).kept (Fr.refl [] w6).drew (by simp))
                have F6 := hidI f6
                have HGO := hidI (And.intro hgo (And.intro hg6 L6.lt))
                clear L6 f6 f6' fr hg6' LR RX m2 r1 ew hf hgo hg6 LX
                go_region_held3 (fun w' => w'.cell? ⟨rg, 3, none⟩ = some (.pointer (some ⟨bp, 0, none⟩)) ∧ w'.cell? ⟨db, 1, none⟩ = some (.int .i64 (q : Int))) (first | exact KC.out _ (Fr.refl [] w6).drew | exact KC.out _ (Fr.refl [] w6) | exact KK | exact KL) ((first
                  | (go_at_call 31; refine PX.out.mono ?_; rintro e7 w7 ⟨rfl, b7, H7, P7⟩; have D7 : Hid (w7.heap[db]? = some (Obj.cells #[.int .i64 d.kind, .int .i64 (q : Int), .int .i64 d.off, .int .i64 d.many, .slice d.ad d.l.length d.c, .bool od] 64)) := hidI (P7.out.2.1.fr.same hdb5 D6.out); have KK : w7.cell? ⟨rg, 3, none⟩ = some (.pointer (some ⟨bp, 0, none⟩)) ∧ w7.cell? ⟨db, 1, none⟩ = some (.int .i64 (q : Int)) := ⟨P7.out.1.g.c3, cell_of_row w7 db 1 _ _ _ D7.out⟩)
                  | (go_at_call 180; refine (kept_any w7 g cap 512 c a l HA5.out.1.len (by omega) (L6'.out.kept P7.out.2.1.fr HGO.out.1) (bytes_step HB6.out HAN.out P7.out.2.1)).mono ?_; rintro e8 w8 ⟨rfl, f8⟩; have KL : w8.cell? ⟨rg, 3, none⟩ = some (.pointer (some ⟨bp, 0, none⟩)) ∧ w8.cell? ⟨db, 1, none⟩ = some (.int .i64 (q : Int)) := ⟨(P7.out.1.quiet f8).g.c3, cell_of_row w8 db 1 _ _ _ (f8.same (by simp) D7.out)⟩)))
                have L8 := ((L6'.out.kept P7.out.2.1.fr HGO.out.1).kept f8 (by simp))
                have OX := over_any w8 g cap 512 l HA5.out.1.len (by omega) L8
                have X8 := hidI (And.intro L8.ex (And.intro (P7.out.2.1.out HGO.out.1 (by simpa using HGO.out.2.2)) (P7.out.1.quiet f8)))
                have B8 : Hid (BytesAt w8 a l) := hidI ((bytes_step HB6.out HAN.out P7.out.2.1).kept f8 (by simp))
                have D8 := hidI (f8.same (by simp) D7.out)
                clear KK KL KC L8 L6' HB6 PX f8 D6 D7
                go_upto_region 28 with (go_at_call 181; refine OX.mono ?_; rintro e9 w9 ⟨rfl, f9⟩; have F9 := hidI f9; clear f9)
                have C9 := hidI (by
                  obtain ⟨⟨cur, hcur, _⟩, ho7, I8⟩ := X8.out
                  have hs0 : w0.heap.size ≤ g := Nat.le_trans G5.out.ab.fr.size HGO.out.2.1
                  exact I8.over F9.out hcur ho7 hs0 (fun x hx e => by
                    have h1 := I5.out.tn.below x hx
                    have h2 := HGO.out.2.1
                    omega) (fun x hx e => by
                    have h1 := I5.out.tw.below x hx
                    have h2 := HGO.out.2.1
                    omega))
                have B9 : BytesAt w9 a l := bytes_off B8.out (show BytesAt w5 a l from HA5.out.1.bytes) HGO.out.2.1 F9.out
                have hdl : db < w5.heap.size := (Array.getElem?_eq_some_iff.1 D5.out).1
                have D9 := hidI (F9.out.same (by have := HGO.out.2.1; simp; omega) D8.out)
                obtain ⟨tb, e, rfl, _, _⟩ := T5.out.t.at q hqn
                have YX := hidI (ccopy_any w9.drew a c l ⟨HA5.out.1.len, B9.kept (Fr.refl [] w9).drew (by simp), HA5.out.1.cap⟩ HA5.out.2)
                have KC9 : Hid (∀ w', Fr [] w9 w' → w'.cell? ⟨mb, 0, none⟩ = some (.slice (some ⟨tb, 0, none⟩) pgn cN) ∧ w'.cell? ⟨db, 1, none⟩ = some (.int .i64 (q : Int))) := hidI (fun w' f => ⟨(C9.out.quiet f).g.mc rfl, cell_of_row w' db 1 _ _ _ (f.same (by simp) D9.out)⟩)
                have k0 : (0 : Int) ≤ (q : Int) := by omega
                have k1 : (q : Int) < (pgn : Int) := by omega
                have HL := hidI HA5.out.1.len
                have HP7 := hidI P7.out.2.2
                have HCH := hidI (And.intro I5.out.tx.c0 (And.intro I5.out.tx.c1 hph))
                clear OX X8 B8 D8 B9 hdl F9 HGO P7 D5 G5 T5 HA5 HAN HDN I5
                go_region_held3 (fun w' => w'.cell? ⟨mb, 0, none⟩ = some (.slice (some ⟨tb, 0, none⟩) pgn cN) ∧ w'.cell? ⟨db, 1, none⟩ = some (.int .i64 (q : Int))) (first | exact KC9.out _ (Fr.refl [] w9).drew | exact KC9.out _ (Fr.refl [] w9) | exact KK | exact KL) ((first
                  | (go_at_call 42; refine YX.out.mono ?_; rintro e10 w10 ⟨g10, c10, rfl, R10, hg10, f10⟩; have F10 : Fr [] w9 w10 := (Fr.refl [] w9).drew.trans f10; have KK := KC9.out _ F10; obtain ⟨w11, v0, e11, z11, c11, f11, t11, C11⟩ := C9.out.copied hqn R10 HL.out hg10 F10; have HC11 := hidI C11; have KL : w11.cell? ⟨mb, 0, none⟩ = some (.slice (some ⟨tb, 0, none⟩) pgn cN) ∧ w11.cell? ⟨db, 1, none⟩ = some (.int .i64 (q : Int)) := ⟨C11.g.mc rfl, cell_of_row w11 db 1 _ _ _ (f11.same (by (simp; obtain ⟨cur, hcur⟩ := t11; exact blkt_ne (F10.same (by simp) D9.out) hcur (by decide))) (F10.same (by simp) D9.out))⟩; clear C11 f11 t11 R10 hg10 f10 F10)))
                obtain ⟨chs, hchs⟩ : ∃ chs : Int, b.t.chg + sp = chs := ⟨_, rfl⟩
                have wch : IntKind.i64.wrap (b.t.chg + sp) = chs := by
                  have h1 := HCH.out
                  have h2 := (spans_bound hS).1
                  have h3 := HSS.out.2.2.1
                  have h4 := keptOf_nonneg H
                  unfold phN at h1
                  rw [wrapI _ (by omega) (by omega)]
                  exact hchs
                obtain ⟨w12, w13, e12, z12, c12, c13, z13, e13, I13⟩ := HC11.out.done (ow := oo) (ch := chs) (by have h1 := HSS.out.2.1; have h2 := HP7.out.2; omega) (by have h1 := HSS.out.2.2.1; have h2 := HP7.out.1; omega)
                clear HC11 HP7 HCH HSS hchs KC9 YX C9
                go_wp2_with fail
                go_ret
                exact ⟨rfl, hidI I13.out.cd⟩
            · have hb : ((n : Int) != 512) = true := by simp; omega
              clear HS
              go_upto_region 24 with (go_at_call 178; refine LX.mono ?_; rintro e6 w6 ⟨g, cap, rfl, L6, hg6, f6⟩)
              have PX := cput_arg ((I5.out.g.quiet f6).quiet (Fr.refl [] w6).drew).ab hst (q : Int) (by omega) (by rw [hpgs]; omega) (some ⟨g, 0, none⟩) n cap hn5
              have KC : Hid (∀ w', Fr [] w6 w' → w'.cell? ⟨rg, 3, none⟩ = some (.pointer (some ⟨bp, 0, none⟩)) ∧ w'.cell? ⟨db, 1, none⟩ = some (.int .i64 (q : Int))) := hidI (fun w' f => ⟨((G5.out.quiet f6).quiet f).c3, cell_of_row w' db 1 _ _ _ ((f6.trans f).same (by simp) D5.out)⟩)
              have L6' := hidI L6
              have HB6 : Hid (BytesAt w6 a l) := hidI ((show BytesAt w5 a l from HA5.out.1.bytes).kept f6 (by simp))
              have F6 := hidI f6
              clear L6 f6 LX m2 r1 hb hpgs
              go_region_held3 (fun w' => w'.cell? ⟨rg, 3, none⟩ = some (.pointer (some ⟨bp, 0, none⟩)) ∧ w'.cell? ⟨db, 1, none⟩ = some (.int .i64 (q : Int))) (first | exact KC.out _ (Fr.refl [] w6).drew | exact KC.out _ (Fr.refl [] w6) | exact KK | exact KL) ((first
                | (go_at_call 31; refine PX.mono ?_; rintro e7 w7 ⟨rfl, f7⟩; have F7 : Hid (Fr [] w6 w7) := hidI ((Fr.refl [] w6).drew.trans f7); have KK := KC.out _ F7.out)
                | (go_at_call 180; refine (kept_any w7 g cap n c a l HA5.out.1.len (by omega) (L6'.out.kept F7.out (by simp)) (HB6.out.kept F7.out (by simp))).mono ?_; rintro e8 w8 ⟨rfl, f8⟩; have KL := KC.out _ (F7.out.trans f8))))
              have OX := over_any w8 g cap n l HA5.out.1.len (by omega) ((L6'.out.kept F7.out (by simp)).kept f8 (by simp))
              have F8 := hidI ((F6.out.trans F7.out).trans f8)
              clear KK KL KC L6' HB6 F6 F7 f7 f8 PX
              go_wp2_with (go_at_call 181; refine OX.mono ?_; rintro e9 w9 ⟨rfl, f9⟩; have F9 := hidI (F8.out.then f9 (fun i hi hm => by simp at hm; omega)); clear f9)
              go_ret
              exact ⟨rfl, hidI ((I5.out.quiet F9.out).le (by omega) (by omega)).cd⟩
end
end Go.Proofs.YtopaeomjndblkaaGreat

