/-
  PoolDoes: does, whatever is to be done.
-/
import Derived.Test.YtopaeomjndblkaaGreatW12Z
import Derived.Deep.Cut
import Derived.Deep.CutBlock
import Derived.Deep.CutRange
import Derived.Test.YtopaeomjndblkaaGreatW13Z
namespace Go.Proofs.YtopaeomjndblkaaGreat
open Go.RowKit Go.Maps

section
variable {w0 w : World} {rg : Nat} {x : Po} {m : Mo} {pages most : Nat} {J : Int}
theorem pflush (h : Pd w0 w rg x m) (I : Iv pages most J x m.R m.hs) : Calls Tryz.prog 72 #[.pointer (some ⟨x.pp, 0, none⟩)] w fun e w' => e = .returned (.int .i64 0) ∧ Hid (∃ x', Pd w0 w' rg x' m ∧ Iv pages most J x' m.R m.hs ∧ Clean x' ∧ x'.pp = x.pp) := by
  refine (flush_any h.rig.po).mono ?_
  rintro e w' ⟨rfl, x', st, F⟩
  have hpp := F.al.2.2.2.1
  obtain ⟨I2, C⟩ := I.flushed F
  exact ⟨rfl, hidI ⟨x', h.step st (h.rig.step st F.kin.d F.kin.p hpp) hpp, I2, C, hpp⟩⟩
theorem pdirty0 (h : Pd w0 w rg x m) (c : Clean x) : Calls Tryz.prog 21 #[.pointer (some ⟨x.pp, 0, none⟩)] w fun e w' => ∃ (ad : Option Addr) (cc : Nat), e = .returned (.slice ad 0 cc) ∧ Fr [] w w' := by
  refine (pdirty_any h.rig.po).mono ?_
  rintro e w' ⟨ad, n, cc, rfl, ds, D, RI, _⟩
  have hn : n = 0 := by
    rw [← D.len]
    cases ds with
    | nil => rfl
    | cons f l =>
      have h1 := RI.mem (f := f) List.mem_cons_self
      have h2 := c f h1.1
      omega
  subst hn
  exact ⟨ad, cc, rfl, D.fr⟩
/-- A row of one version, new. -/
theorem Pd.cutR (h : Pd w0 w rg x m) {i : Nat} {r : Rw} (hr : m.R[i]? = some r) {tb : Nat} (ht : m.ad = some ⟨tb, 0, none⟩) {v : Vr} (hv : v ∈ r.vs) :
    Pd w0 ((w.alloc (.cells #[.slice (some ⟨v.g, 0, none⟩) 512 v.c, .int .i64 v.n] 39)).setCell ⟨tb, i, none⟩ (.slice (some ⟨w.heap.size, 0, none⟩) 1 1)) rg x { m with R := m.R.set i ⟨w.heap.size, 1, [v]⟩ } := by
  have f1 : Fr [r.g] w (w.alloc (.cells #[.slice (some ⟨v.g, 0, none⟩) 512 v.c, .int .i64 v.n] 39)) := (Fr.refl [r.g] w).alloc _
  have h1 := heap_alloc_new w (.cells #[.slice (some ⟨v.g, 0, none⟩) 512 v.c, .int .i64 v.n] 39)
  have R := h.mo.row r (List.mem_of_getElem? hr)
  have V := (R.by' v hv).kept ((Fr.refl [] w).alloc (.cells #[.slice (some ⟨v.g, 0, none⟩) 512 v.c, .int .i64 v.n] 39)) (by simp)
  refine h.setR hr ht (r' := ⟨w.heap.size, 1, [v]⟩) f1 ⟨⟨rfl, Or.inr ⟨w.heap.size, 1, _, rfl, h.fr.size, h1, Nat.le_refl _, by unfold maxLen; omega, rfl, rfl⟩⟩, Nat.zero_lt_one, fun u hu => ?_⟩ (Or.inr (Nat.le_refl _)) (fun u hu => Or.inl ?_)
  · rw [List.mem_singleton.1 hu]
    exact V
  · rw [List.mem_singleton.1 hu]
    exact hv
end
set_option maxHeartbeats 8000000 in
set_option maxRecDepth 100000 in
/-- 6: Flush. -/
theorem pdoes6 {w0 w : World} {rg : Nat} {x : Po} {m : Mo} {pages most : Nat} {J : Int} (h : Pd w0 w rg x m) (I : Iv pages most J x m.R m.hs) (hp : pages ≤ 1000) (d : DeedV) (PK : Hid (∀ w', Calls Tryz.prog 40 #[.int .i64 d.kind, .int .i64 8] w' fun e w'' => e = .returned (.int .i64 6) ∧ w'' = w')) :
    Calls Tryz.prog 18 #[.pointer (some ⟨rg, 0, none⟩), .pointer (some ⟨m.mb, 0, none⟩), .agg (deedV d).toArray, .int .i64 (most : Int)] w fun e w' => e = .returned (.bool true) ∧ Hid (PdJ w0 w' rg m.mb pages most (J + 1)) := by
  obtain ⟨db, hdb⟩ : ∃ db, w.heap.size = db := ⟨_, rfl⟩
  unfold deedV
  obtain ⟨pq, hpq⟩ : ∃ pq : Int, d.page = pq := ⟨_, rfl⟩
  rw [hpq]
  have f1 : Fr [] w (w.alloc (.cells #[.int .i64 d.kind, .int .i64 pq, .int .i64 d.blk, .int .i64 d.off, .slice d.a1 d.l1.length d.c1, .slice d.a2 d.l2.length d.c2, .int .i64 d.N, .bool d.odd] 44)) := (Fr.refl [] w).alloc _
  have h1 := heap_alloc_new w (.cells #[.int .i64 d.kind, .int .i64 pq, .int .i64 d.blk, .int .i64 d.off, .slice d.a1 d.l1.length d.c1, .slice d.a2 d.l2.length d.c2, .int .i64 d.N, .bool d.odd] 44)
  rw [hdb] at h1
  obtain ⟨w1, hw1⟩ : ∃ w1, w.alloc (.cells #[.int .i64 d.kind, .int .i64 pq, .int .i64 d.blk, .int .i64 d.off, .slice d.a1 d.l1.length d.c1, .slice d.a2 d.l2.length d.c2, .int .i64 d.N, .bool d.odd] 44) = w1 := ⟨_, rfl⟩
  rw [hw1] at f1 h1
  have X1 := hidI (h.quiet f1)
  have HI := hidI I
  have d0 : w1.cell? ⟨db, 0, none⟩ = some (.int .i64 d.kind) := cell_of_row w1 db 0 _ _ _ h1
  have d1 : w1.cell? ⟨db, 1, none⟩ = some (.int .i64 pq) := cell_of_row w1 db 1 _ _ _ h1
  obtain ⟨mb, hmb⟩ : ∃ mb, m.mb = mb := ⟨_, rfl⟩
  have m0 : w1.cell? ⟨mb, 0, none⟩ = some (.slice m.ad pages m.c) := by
    rw [← hmb, ← I.rl]
    exact X1.out.mo.c0
  obtain ⟨is, wn, HK⟩ : ∃ (is : Bool) (wn : Int), Hid ((is = false ∧ wn = 6 ∧ (pq < 0 ∨ (pages : Int) ≤ pq)) ∨ (is = true ∧ ∃ (q : Nat) (bz : Bool), pq = (q : Int) ∧ q < pages ∧ wn = (if bz then 9 else 0) ∧ ∀ w', Fr [] w1 w' → Calls Tryz.prog 76 #[.pointer (some ⟨mb, 0, none⟩), .int .i64 (q : Int), .int .i64 (most : Int)] w' fun e w'' => e = .returned (.bool bz) ∧ w'' = w')) := by
    by_cases hin : 0 ≤ pq ∧ pq < (pages : Int)
    · obtain ⟨q, rfl⟩ : ∃ q : Nat, pq = (q : Int) := ⟨pq.toNat, by omega⟩
      obtain ⟨bz, hbz, FX⟩ := X1.out.full HI.out hp (q := q) (by omega)
      rw [hmb] at FX
      exact ⟨true, if bz then 9 else 0, hidI (Or.inr ⟨rfl, q, bz, rfl, by omega, rfl, FX⟩)⟩
    · exact ⟨false, 6, hidI (Or.inl ⟨rfl, rfl, by omega⟩)⟩
  rw [hmb]
  clear h I f1 h1 hpq
  go_enter Tryz.func18, Tryz.ntmps18
  go_upto_region 2 with fail
  go_cut [10] from 32 to 40 (fun s10 wx => s10 = .bool is ∧ wx = w1)
  case first =>
    rcases HK.out with ⟨his, _, hbad⟩ | ⟨his, q, _, hq, hlt, _⟩
    · by_cases hneg : pq < 0
      · have q0 : ¬ 0 ≤ pq := by omega
        go_wp2_with fail
        go_meet
        exact ⟨by rw [his], rfl⟩
      · have q0 : 0 ≤ pq := by omega
        have q1 : ¬ pq < (pages : Int) := by omega
        go_wp2_with fail
        go_meet
        exact ⟨by rw [his], rfl⟩
    · have q0 : 0 ≤ pq := by omega
      have q1 : pq < (pages : Int) := by omega
      clear hq
      go_wp2_with fail
      go_meet
      exact ⟨by rw [his], rfl⟩
  case rest =>
    obtain ⟨rfl, hz⟩ := hcut
    rw [hz]
    clear hz m0
    go_upto_block 0 with fail
    go_cut [11] from 41 to 49 (fun s11 wx => s11 = .int .i64 wn ∧ wx = w1)
    case first =>
      rcases HK.out with ⟨his, hwn, _⟩ | ⟨his, q, bz, hq, _, hwn, FX⟩
      · subst his
        go_wp2_with fail
        go_meet
        exact ⟨by rw [hwn], rfl⟩
      · have HFX := hidI FX
        clear FX
        subst his
        subst hq
        cases bz with
        | true =>
          go_wp2_with (go_at_call 76; refine (HFX.out _ (Fr.refl [] w1)).mono ?_; rintro e wz ⟨rfl, hz⟩; rw [hz]; clear hz)
          go_meet
          exact ⟨by rw [hwn]; rfl, rfl⟩
        | false =>
          go_wp2_with (go_at_call 76; refine (HFX.out _ (Fr.refl [] w1)).mono ?_; rintro e wz ⟨rfl, hz⟩; rw [hz]; clear hz)
          go_meet
          exact ⟨by rw [hwn]; rfl, rfl⟩
    case rest =>
      obtain ⟨rfl, hz⟩ := hcut
      rw [hz]
      clear hz HK d1
      have p2 : w1.cell? ⟨rg, 2, none⟩ = some (.pointer (some ⟨x.pp, 0, none⟩)) := X1.out.p
      have PF := pflush X1.out HI.out
      go_upto_region 50 with (first
        | (go_at_call 40; refine (PK.out _).mono ?_; rintro e wz ⟨rfl, hz⟩; rw [hz]; clear hz)
        | (go_at_call 72; refine PF.mono ?_; rintro e w2 ⟨rfl, P2⟩; have p3 : w2.cell? ⟨rg, 2, none⟩ = some (.pointer (some ⟨x.pp, 0, none⟩)) := (by obtain ⟨x2, Y2, _, _, hpp⟩ := P2.out; rw [← hpp]; exact Y2.p); have PD : Calls Tryz.prog 21 #[.pointer (some ⟨x.pp, 0, none⟩)] w2 (fun e w' => ∃ (ad : Option Addr) (cc : Nat), e = .returned (.slice ad 0 cc) ∧ Fr [] w2 w') := (by obtain ⟨x2, Y2, _, C2, hpp⟩ := P2.out; rw [← hpp]; exact pdirty0 Y2 C2))
        | (go_at_call 21; refine PD.mono ?_; rintro e w3 ⟨ad3, cc3, rfl, f3⟩))
      obtain ⟨x2, Y2, I2, C2, _⟩ := P2.out
      have HQ : Hid (∃ m2, m2.mb = mb ∧ Pd w0 w3 rg x2 m2 ∧ Iv pages most (J + 1) x2 m2.R m2.hs) := hidI ⟨m, hmb, Y2.quiet f3, I2.le (by omega)⟩
      have HC2 := hidI C2
      clear Y2 I2 C2 P2 PF PD p3 p2 d0 f3
      go_wp2_with fail
      go_loopw [23] (fun s23 wr => ∃ i : Nat, s23 = .int .i64 (i : Int) ∧ i ≤ pages ∧ Hid (∃ m2, m2.mb = mb ∧ Pd w0 wr rg x2 m2 ∧ Iv pages most (J + 1) x2 m2.R m2.hs)) (fun s23 _ => pages - (intOf s23).toNat)
      case atStart => exact ⟨0, rfl, by omega, HQ⟩
      case round =>
        obtain ⟨i, rfl, hi, HR⟩ := hrel
        by_cases hlt : i < pages
        · have q1 : (i : Int) < (pages : Int) := by omega
          have q0 : (0 : Int) ≤ (i : Int) := by omega
          obtain ⟨m2, hm2, X2, I2⟩ := HR.out
          have HX2 := hidI X2
          have HI2 := hidI I2
          obtain ⟨r, hr⟩ : ∃ r, m2.R[i]? = some r := ⟨_, List.getElem?_eq_getElem (by rw [I2.rl]; exact hlt)⟩
          obtain ⟨tb, htb⟩ := X2.mo.at hr
          obtain ⟨vn, hvn⟩ : ∃ vn, r.vs.length = vn := ⟨_, rfl⟩
          obtain ⟨v, hv, _⟩ := (I2.rc i r hr).last
          obtain ⟨hn0, hat⟩ := row_last hvn hv
          have hmax := (X2.mo.row r (List.mem_of_getElem? hr)).max
          rw [hvn] at hmax
          have KD : Hid (∀ w', Fr [] wr w' → w'.cell? ⟨mb, 0, none⟩ = some (.slice (some ⟨tb, 0, none⟩) pages m2.c) ∧ w'.cell? ⟨tb, i, none⟩ = some (.slice (some ⟨r.g, 0, none⟩) vn r.c) ∧ w'.cell? ⟨r.g, (vn - 1) * 2, none⟩ = some (.slice (some ⟨v.g, 0, none⟩) 512 v.c) ∧ w'.cell? ⟨r.g, (vn - 1) * 2 + 1, none⟩ = some (.int .i64 v.n)) := hidI (fun w' f => by
            have Y := HX2.out.quiet f
            have Z := HX2.out.rdm hr htb hvn f
            have R := Y.mo.row r (List.mem_of_getElem? hr)
            have c := R.cells hat
            refine ⟨?_, Z.t, c.1, c.2⟩
            rw [← hm2, ← HI2.out.rl]
            exact Z.m0)
          have HRV := hidI (And.intro hr (And.intro hv (And.intro htb (And.intro hvn hm2))))
          have e1 : IntKind.i64.wrap ((vn : Int) - 1) = ((vn - 1 : Nat) : Int) := by
            rw [wrapI _ (by omega) (by omega)]
            omega
          have e2 : ((vn - 1 : Nat) : Int) < (vn : Int) := by omega
          have e3 : (0 : Int) ≤ ((vn - 1 : Nat) : Int) := by omega
          clear X2 I2 hat hn0 hv hr htb hvn hm2 HR HQ
          go_upto_region 53 with fail
          go_cut [24] from 322 to 367 (fun s24 wx => ∃ lb, s24 = .pointer (some ⟨lb, 0, none⟩) ∧ Hid (wx.heap[lb]? = some (.cells #[.slice (some ⟨v.g, 0, none⟩) 512 v.c, .int .i64 v.n] 39) ∧ Fr [] wr wx ∧ wr.heap.size ≤ lb))
          case first =>
            go_region_held3 (fun w' => w'.cell? ⟨mb, 0, none⟩ = some (.slice (some ⟨tb, 0, none⟩) pages m2.c) ∧ w'.cell? ⟨tb, i, none⟩ = some (.slice (some ⟨r.g, 0, none⟩) vn r.c) ∧ w'.cell? ⟨r.g, (vn - 1) * 2, none⟩ = some (.slice (some ⟨v.g, 0, none⟩) 512 v.c) ∧ w'.cell? ⟨r.g, (vn - 1) * 2 + 1, none⟩ = some (.int .i64 v.n)) (first | exact KD.out _ (Fr.refl [] wr).drew | exact KD.out _ ((Fr.refl [] wr).drew.alloc _) | exact KD.out _ (Fr.refl [] wr)) (fail)
            go_wp2_with fail
            go_meet
            exact ⟨_, rfl, hidI ⟨heap_alloc_new _ _, (Fr.refl [] wr).drew.alloc _, Nat.le_refl _⟩⟩
          case rest =>
            obtain ⟨lb, rfl, HLB⟩ := hcut
            generalize wc = w5 at *
            have X5 := hidI (HX2.out.quiet HLB.out.2.1)
            have hrt := HRV.out
            have KF : Hid (∀ w', Fr [] w5 w' → w'.cell? ⟨mb, 0, none⟩ = some (.slice (some ⟨tb, 0, none⟩) pages m2.c) ∧ w'.cell? ⟨tb, i, none⟩ = some (.slice (some ⟨r.g, 0, none⟩) vn r.c) ∧ w'.frozen? ⟨tb, i, none⟩ = false ∧ w'.cell? ⟨lb, 0, none⟩ = some (.slice (some ⟨v.g, 0, none⟩) 512 v.c) ∧ w'.cell? ⟨lb, 1, none⟩ = some (.int .i64 v.n)) := hidI (fun w' f => by
              obtain ⟨y0, y1, _, _⟩ := KD.out w' (HLB.out.2.1.trans f)
              have hl := f.same (by simp) HLB.out.1
              exact ⟨y0, y1, ((X5.out.quiet f).mo.cell HRV.out.1 HRV.out.2.2.1).2, cell_of_row w' lb 0 _ _ _ hl, cell_of_row w' lb 1 _ _ _ hl⟩)
            obtain ⟨z0, z1, z2, z3, z4⟩ := KF.out w5 (Fr.refl _ _)
            obtain ⟨y0, y1, y2, y3, y4⟩ := KF.out (w5.alloc (.cells #[.slice (some ⟨v.g, 0, none⟩) 512 v.c, .int .i64 v.n] 39)) ((Fr.refl [] w5).alloc _)
            have HLR : Hid (lb ≠ tb ∧ lb ≠ r.g) := hidI (by
              have h1 := HLB.out.2.2
              have h2 := ((HX2.out.mo.row r (List.mem_of_getElem? HRV.out.1)).lt r.g List.mem_cons_self).2
              have h3 : tb ∈ m2.tb := by
                unfold Mo.tb
                rw [HRV.out.2.2.1]
                simp [Value.ownBlock]
              have h4 := (HX2.out.mo.lt tb (Mo.own_tb h3)).2
              omega)
            have HNX : Hid (∀ wz, (wz = w5 ∨ wz = w5.drew) → (∃ m3, m3.mb = mb ∧ Pd w0 ((wz.alloc (.cells #[.slice (some ⟨v.g, 0, none⟩) 512 v.c, .int .i64 v.n] 39)).setCell ⟨tb, i, none⟩ (.slice (some ⟨w5.heap.size, 0, none⟩) 1 1)) rg x2 m3 ∧ Iv pages most (J + 1) x2 m3.R m3.hs) ∧ ((wz.alloc (.cells #[.slice (some ⟨v.g, 0, none⟩) 512 v.c, .int .i64 v.n] 39)).setCell ⟨tb, i, none⟩ (.slice (some ⟨w5.heap.size, 0, none⟩) 1 1)).heap[lb]? = some (.cells #[.slice (some ⟨v.g, 0, none⟩) 512 v.c, .int .i64 v.n] 39) ∧ VrAt w0.heap.size ((wz.alloc (.cells #[.slice (some ⟨v.g, 0, none⟩) 512 v.c, .int .i64 v.n] 39)).setCell ⟨tb, i, none⟩ (.slice (some ⟨w5.heap.size, 0, none⟩) 1 1)) v) := hidI (fun wz hz => by
              have fz : Fr [] w5 wz := by
                rcases hz with rfl | rfl
                · exact Fr.refl _ _
                · exact (Fr.refl [] w5).drew
              have hs : wz.heap.size = w5.heap.size := by
                rcases hz with rfl | rfl
                · rfl
                · rfl
              have XZ := X5.out.quiet fz
              have P := XZ.cutR HRV.out.1 HRV.out.2.2.1 (List.mem_of_getLast? HRV.out.2.1)
              have IC := HI2.out.cut XZ.rig.po HC2.out HRV.out.1 HRV.out.2.1 ⟨wz.heap.size, 1, [v]⟩ rfl
              rw [hs] at P
              have hl := fz.same (by simp) HLB.out.1
              have hl2 := ((Fr.refl [] wz).alloc (.cells #[.slice (some ⟨v.g, 0, none⟩) 512 v.c, .int .i64 v.n] 39)).same (by simp) hl
              have f2 := fr_set (wz.alloc (.cells #[.slice (some ⟨v.g, 0, none⟩) 512 v.c, .int .i64 v.n] 39)) tb i (.slice (some ⟨w5.heap.size, 0, none⟩) 1 1)
              rw [hs] at IC
              refine ⟨⟨{ m2 with R := m2.R.set i ⟨w5.heap.size, 1, [v]⟩ }, HRV.out.2.2.2.2, P, IC.1⟩, f2.same (by simpa using HLR.out.1) hl2, ?_⟩
              exact (P.mo.row ⟨w5.heap.size, 1, [v]⟩ (List.mem_of_getElem? (i := i) (List.getElem?_set_self (List.getElem?_eq_some_iff.1 HRV.out.1).1))).by' v (List.mem_singleton.2 rfl))
            have HPG : Hid (v.l = pgD x2.start x2.y i) := hidI (HI2.out.cut X5.out.rig.po HC2.out HRV.out.1 HRV.out.2.1 ⟨0, 1, [v]⟩ rfl).2
            clear e1 e2 e3 hrt
            go_upto_region 54 with fail
            go_cut [] from 322 to 367 (fun wx => Hid ((∃ m3, m3.mb = mb ∧ Pd w0 wx rg x2 m3 ∧ Iv pages most (J + 1) x2 m3.R m3.hs) ∧ wx.heap[lb]? = some (.cells #[.slice (some ⟨v.g, 0, none⟩) 512 v.c, .int .i64 v.n] 39) ∧ VrAt w0.heap.size wx v))
            case first =>
              go_region_law fail
              all_goals
                go_wp2_with fail
                go_meet
                first
                  | exact hidI (HNX.out w5 (Or.inl rfl))
                  | exact hidI (HNX.out w5.drew (Or.inr rfl))
            case rest =>
              generalize wc = w6 at *
              clear z0 z1 z2 z3 z4 y0 y1 y2 y3 y4
              obtain ⟨⟨m3, hm3, X3, I3⟩, hl6, V6⟩ := hcut.out
              have HX3 := hidI X3
              have HN3 : Hid (∃ m2, m2.mb = mb ∧ Pd w0 w6 rg x2 m2 ∧ Iv pages most (J + 1) x2 m2.R m2.hs) := hidI ⟨m3, hm3, X3, I3⟩
              have HL6 := hidI (And.intro hl6 V6)
              have hdv := X3.rig.po.lo.dev
              have har := X3.rig.po.area
              have hst := I3.st
              have hpg := I3.pg
              have DX := dread hdv (12 + (i : Int)) (by omega) (by omega)
              have e12 : IntKind.i64.wrap (12 + (i : Int)) = 12 + (i : Int) := wrapI _ (by omega) (by omega)
              have hpd : Dv.latest x2.y.S x2.y.O (12 + (i : Int)) = v.l := by
                rw [HPG.out]
                unfold pgD
                rw [hst]
                rfl
              rw [hpd] at DX
              have r0 : w6.cell? ⟨rg, 0, none⟩ = some (.pointer (some ⟨x2.y.d, 0, none⟩)) := X3.d
              clear hcut X3 I3 hm3 hl6 V6 hdv har hst hpg hpd
              go_upto_region 56 with (go_at_call 83; refine DX.mono ?_; rintro e w7 ⟨g7, rfl, B7, hg7, f7⟩)
              have z0 : w7.cell? ⟨lb, 0, none⟩ = some (.slice (some ⟨v.g, 0, none⟩) 512 v.c) := cell_of_row w7 lb 0 _ _ _ (f7.same (by simp) HL6.out.1)
              have V7 := HL6.out.2.kept f7 (by simp)
              have SX := same_any w7 (some ⟨g7, 0, none⟩) (some ⟨v.g, 0, none⟩) v.l v.l 512 512 v.c B7.bytes V7.b.bytes V7.l V7.l (by omega)
              rw [show (v.l == v.l) = true by simp] at SX
              have F7 := hidI f7
              clear DX r0 B7 hg7 f7 V7 e12
              go_wp2_with (go_at_call 29; refine SX.mono ?_; rintro e w8 ⟨rfl, f8⟩)
              exact ⟨⟨i + 1, by go_num, by omega, hidI (by
                obtain ⟨m3, ha, hb, hc⟩ := HN3.out
                exact ⟨m3, ha, hb.quiet (F7.out.trans f8), hc⟩)⟩, by simp [intOf]; omega⟩
        · have q1 : ¬ (i : Int) < (pages : Int) := by omega
          obtain ⟨m2, hm2, X2, I2⟩ := HR.out
          go_wp2_with fail
          go_ret
          exact ⟨rfl, hidI ⟨x2, m2, hm2, X2, I2⟩⟩
end Go.Proofs.YtopaeomjndblkaaGreat

namespace Go.Proofs.YtopaeomjndblkaaGreat
open Go.RowKit Go.Maps

theorem pdoes_any {w0 w : World} {rg : Nat} {x : Po} {m : Mo} {pages most : Nat} {J : Int} (h : Pd w0 w rg x m) (I : Iv pages most J x m.R m.hs) (hp : pages ≤ 1000) (d : DeedV) (ok : DeedOk w0 d) (h2000 : d.l2.length ≤ 2000) (hJ : 1067 * J + 1067 ≤ 400000) :
    Calls Tryz.prog 18 #[.pointer (some ⟨rg, 0, none⟩), .pointer (some ⟨m.mb, 0, none⟩), .agg (deedV d).toArray, .int .i64 (most : Int)] w fun e w' => e = .returned (.bool true) ∧ Hid (PdJ w0 w' rg m.mb pages most (J + 1)) := by
  have okw : DeedOk w d := { ok with sp := ok.sp.kept h.fr }
  have PK : ∀ k : Int, d.kind % 8 = k → Hid (∀ w', Calls Tryz.prog 40 #[.int .i64 d.kind, .int .i64 8] w' fun e w'' => e = .returned (.int .i64 k) ∧ w'' = w') := fun k hk => hidI (fun w' => by
    rw [← hk]
    exact pick_any w' d.kind 8 ok.kind (by omega) (by omega))
  have h0 : 0 ≤ d.kind % 8 := by omega
  have h8 : d.kind % 8 < 8 := by omega
  obtain ⟨k, hk⟩ : ∃ k, d.kind % 8 = k := ⟨_, rfl⟩
  have P := PK k hk
  rw [hk] at h0 h8
  have hc : k = 0 ∨ (k = 1 ∨ k = 2 ∨ k = 3) ∨ k = 4 ∨ k = 5 ∨ k = 6 ∨ k = 7 := by omega
  rcases hc with rfl | hc | rfl | rfl | rfl | rfl
  · exact pdoes0 h I hp d okw P
  · exact pdoes1 h I hp d ok h2000 hJ hc P
  · exact pdoes4 h I hp d okw (by omega) P
  · exact pdoes5 h I hp d okw (by omega) P
  · exact pdoes6 h I hp d P
  · exact pdoes7 h I hp d okw P
end Go.Proofs.YtopaeomjndblkaaGreat

