/-
  PoolDoes: does, of Change.
-/
import Derived.Test.YtopaeomjndblkaaGreatW12Z
import Derived.Deep.Cut
import Derived.Deep.CutBlock
import Derived.Deep.CutRange
namespace Go.Proofs.YtopaeomjndblkaaGreat
open Go.RowKit Go.Maps

/-- The law's model beside a deed that is a Change: the rig, the deed's box, the span's. -/
structure CB (w0 w : World) (rg : Nat) (x : Po) (m : Mo) (pages most : Nat) (J : Int) (db sb : Nat) (D S : Array Value) : Prop where
  pd : Pd w0 w rg x m
  iv : Iv pages most J x m.R m.hs
  d : w.heap[db]? = some (.cells D 44)
  s : w.heap[sb]? = some (.cells S 42)
  dn : db ∉ m.own ∧ db ∉ rg :: x.pp :: x.own
  sn : sb ∉ m.own ∧ sb ∉ rg :: x.pp :: x.own
theorem CB.quiet {w0 w w' : World} {rg : Nat} {x : Po} {m : Mo} {pages most : Nat} {J : Int} {db sb : Nat} {D S : Array Value} (h : CB w0 w rg x m pages most J db sb D S) (f : Fr [] w w') : CB w0 w' rg x m pages most J db sb D S :=
  { h with pd := h.pd.quiet f, d := f.same (by simp) h.d, s := f.same (by simp) h.s }
theorem CB.step {w0 w w' : World} {rg : Nat} {x x' : Po} {m : Mo} {pages most : Nat} {J J' : Int} {db sb : Nat} {D S : Array Value} (h : CB w0 w rg x m pages most J db sb D S) (st : Step w w' x x') (R : RigAt w' rg x') (hpp : x'.pp = x.pp) (I' : Iv pages most J' x' m.R m.hs) : CB w0 w' rg x' m pages most J' db sb D S := by
  have key : ∀ {b : Nat} {cur : Array Value} {t : TypeId}, w.heap[b]? = some (.cells cur t) → (b ∉ m.own ∧ b ∉ rg :: x.pp :: x.own) → w'.heap[b]? = some (.cells cur t) ∧ (b ∉ m.own ∧ b ∉ rg :: x'.pp :: x'.own) := fun {b cur t} hb hn => by
    have hlt := (Array.getElem?_eq_some_iff.1 hb).1
    refine ⟨st.fr.same (fun e => hn.2 (List.mem_cons_of_mem _ (List.mem_cons_of_mem _ e))) hb, hn.1, fun e => ?_⟩
    rcases List.mem_cons.1 e with e | e
    · exact hn.2 (by rw [e]; exact List.mem_cons_self)
    rcases List.mem_cons.1 e with e | e
    · exact hn.2 (by rw [e, hpp]; exact List.mem_cons_of_mem _ List.mem_cons_self)
    rcases st.ow b e with h1 | h1
    · exact hn.2 (List.mem_cons_of_mem _ (List.mem_cons_of_mem _ h1))
    · omega
  exact ⟨h.pd.step st R hpp, I', (key h.d h.dn).1, (key h.s h.sn).1, (key h.d h.dn).2, (key h.s h.sn).2⟩
theorem CB.low {w0 w : World} {rg : Nat} {x : Po} {m : Mo} {pages most : Nat} {J J' : Int} {db sb : Nat} {D S : Array Value} (h : CB w0 w rg x m pages most J db sb D S) (hj : J ≤ J') : CB w0 w rg x m pages most J' db sb D S := { h with iv := h.iv.le hj }
/-- A row that has one version more, and where the table has it. -/
theorem newrow {w0 wA w12 : World} {rg : Nat} {x4 : Po} {m : Mo} {tb q lb db vn : Nat} {r r' : Rw} {v' : Vr} (XA : Pd w0 wA rg x4 m) (hr : m.R[q]? = some r) (ht : m.ad = some ⟨tb, 0, none⟩) (hvn : r.vs.length = vn) (f : Fr [r.g] wA w12) (hR : RwAt w0.heap.size w12 r') (hg : r'.g = r.g ∨ wA.heap.size ≤ r'.g) (e : r'.vs = r.vs ++ [v']) (hv' : v'.g ∉ rg :: x4.pp :: x4.own) {D Lc : Array Value} (hd : wA.heap[db]? = some (.cells D 44)) (hl : wA.heap[lb]? = some (.cells Lc 39)) (hlb : lb ≠ r.g) :
    (w12.cell? ⟨m.mb, 0, none⟩ = some (.slice (some ⟨tb, 0, none⟩) m.R.length m.c) ∧ w12.heap[db]? = some (.cells D 44) ∧ w12.heap[lb]? = some (.cells Lc 39)) ∧ w12.cell? ⟨tb, q, none⟩ = some (.slice (some ⟨r.g, 0, none⟩) vn r.c) ∧ w12.frozen? ⟨tb, q, none⟩ = false ∧
    ((w12.setCell ⟨tb, q, none⟩ (.slice (some ⟨r'.g, 0, none⟩) (vn + 1) r'.c)).cell? ⟨m.mb, 0, none⟩ = some (.slice (some ⟨tb, 0, none⟩) m.R.length m.c) ∧ (w12.setCell ⟨tb, q, none⟩ (.slice (some ⟨r'.g, 0, none⟩) (vn + 1) r'.c)).heap[db]? = some (.cells D 44) ∧ (w12.setCell ⟨tb, q, none⟩ (.slice (some ⟨r'.g, 0, none⟩) (vn + 1) r'.c)).heap[lb]? = some (.cells Lc 39)) ∧
    Pd w0 (w12.setCell ⟨tb, q, none⟩ (.slice (some ⟨r'.g, 0, none⟩) (vn + 1) r'.c)) rg x4 { m with R := m.R.set q r' } := by
  obtain ⟨_, curr, hcr⟩ := (XA.mo.row r (List.mem_of_getElem? hr)).ty
  have htb : tb ∈ m.tb := by
    unfold Mo.tb
    rw [ht]
    simp [Value.ownBlock]
  obtain ⟨_, curt, hct⟩ := XA.mo.tbty tb htb
  have n1 : m.mb ≠ r.g := ne_of_ty XA.mo.box hcr (by decide)
  have n2 : db ≠ r.g := ne_of_ty hd hcr (by decide)
  have n3 : tb ≠ r.g := ne_of_ty hct hcr (by decide)
  have k1 := f.same (by simpa using n1) XA.mo.box
  have k2 := f.same (by simpa using n2) hd
  have k3 := f.same (by simpa using hlb) hl
  have k4 := f.same (by simpa using n3) hct
  have hval : rwV r' = .slice (some ⟨r'.g, 0, none⟩) (vn + 1) r'.c := by
    unfold rwV
    rw [e, List.length_append, hvn]
    rfl
  have P := XA.setR hr ht f hR hg (fun u hu => by
    rw [e] at hu
    rcases List.mem_append.1 hu with h1 | h1
    · exact Or.inl h1
    · rw [List.mem_singleton.1 h1]
      exact Or.inr hv')
  rw [hval] at P
  have f2 := fr_set w12 tb q (.slice (some ⟨r'.g, 0, none⟩) (vn + 1) r'.c)
  have c4 : w12.cell? ⟨tb, q, none⟩ = some (.slice (some ⟨r.g, 0, none⟩) vn r.c) := by
    have h1 := (XA.mo.cell hr ht).1
    rw [cell_of_row wA tb q _ _ _ hct] at h1
    rw [cell_of_row w12 tb q _ _ _ k4, h1]
    unfold rwV
    rw [hvn]
  refine ⟨⟨?_, k2, k3⟩, c4, frozen_of_row w12 tb q _ _ k4, ⟨?_, f2.same (by simpa using ne_of_ty hd hct (by decide)) k2, f2.same (by simpa using ne_of_ty hl hct (by decide)) k3⟩, P⟩
  · rw [← ht]
    exact cell_of_row w12 m.mb 0 _ _ _ k1
  · rw [← ht]
    exact cell_of_row _ m.mb 0 _ _ _ (f2.same (by simpa using ne_of_ty XA.mo.box hct (by decide)) k1)
/-- Bytes that came in lie below all that the law has made. -/
theorem bytes_low {w0 : World} {ad : Option Addr} {l : List UInt8} (h : BytesAt w0 ad l) : l = [] ∨ ∀ b o, ad = some ⟨b, o, none⟩ → b < w0.heap.size := by
  cases l with
  | nil => exact Or.inl rfl
  | cons y l =>
    refine Or.inr (fun b o e => ?_)
    obtain ⟨b2, o2, e2, hc⟩ := h.at 0 (by simp)
    rw [e] at e2
    cases e2
    exact block_lt_of_cell hc
set_option maxHeartbeats 16000000 in
set_option maxRecDepth 100000 in
/-- 1 to 3: Change. -/
theorem pdoes1 {w0 w : World} {rg : Nat} {x : Po} {m : Mo} {pages most : Nat} {J : Int} (h : Pd w0 w rg x m) (I : Iv pages most J x m.R m.hs) (hp : pages ≤ 1000) (d : DeedV) (ok : DeedOk w0 d) (h2000 : d.l2.length ≤ 2000) (hJ : 1067 * J + 1067 ≤ 400000) {k : Int} (hk : k = 1 ∨ k = 2 ∨ k = 3) (PK : Hid (∀ w', Calls Tryz.prog 40 #[.int .i64 d.kind, .int .i64 8] w' fun e w'' => e = .returned (.int .i64 k) ∧ w'' = w')) :
    Calls Tryz.prog 18 #[.pointer (some ⟨rg, 0, none⟩), .pointer (some ⟨m.mb, 0, none⟩), .agg (deedV d).toArray, .int .i64 (most : Int)] w fun e w' => e = .returned (.bool true) ∧ Hid (PdJ w0 w' rg m.mb pages most (J + 1)) := by
  obtain ⟨kind, pq, blk, off, a1, c1, l1, a2, c2, l2, N, odd⟩ := d
  have o1 := ok.off
  have HB2 : Hid (BytesAt w0 a2 l2) := hidI ok.sp.b2
  have HZ2 : Hid (a2 = none → l2.length = 0 ∧ c2 = 0) := hidI ok.sp.n2
  clear ok
  dsimp only [deedV] at *
  obtain ⟨n, hn⟩ : ∃ n, l2.length = n := ⟨_, rfl⟩
  rw [hn] at HZ2 h2000 ⊢
  have HN := hidI hn
  obtain ⟨db, hdb⟩ : ∃ db, w.heap.size = db := ⟨_, rfl⟩
  have f1 : Fr [] w (w.alloc (.cells #[.int .i64 kind, .int .i64 pq, .int .i64 blk, .int .i64 off, .slice a1 l1.length c1, .slice a2 n c2, .int .i64 N, .bool odd] 44)) := (Fr.refl [] w).alloc _
  have h1 := heap_alloc_new w (.cells #[.int .i64 kind, .int .i64 pq, .int .i64 blk, .int .i64 off, .slice a1 l1.length c1, .slice a2 n c2, .int .i64 N, .bool odd] 44)
  have hs1 : (w.alloc (.cells #[.int .i64 kind, .int .i64 pq, .int .i64 blk, .int .i64 off, .slice a1 l1.length c1, .slice a2 n c2, .int .i64 N, .bool odd] 44)).heap.size = db + 1 := by simp [hdb]
  rw [hdb] at h1
  obtain ⟨w1, hw1⟩ : ∃ w1, w.alloc (.cells #[.int .i64 kind, .int .i64 pq, .int .i64 blk, .int .i64 off, .slice a1 l1.length c1, .slice a2 n c2, .int .i64 N, .bool odd] 44) = w1 := ⟨_, rfl⟩
  rw [hw1] at f1 h1 hs1
  obtain ⟨sb, hsb⟩ : ∃ sb, w1.heap.size = sb := ⟨_, rfl⟩
  have hdn : db ∉ m.own ∧ db ∉ rg :: x.pp :: x.own := by
    rw [← hdb]
    exact ⟨fun e => by have := (h.mo.lt _ e).2; omega, fun e => by have := h.lt _ e; omega⟩
  have hsn : sb ∉ m.own ∧ sb ∉ rg :: x.pp :: x.own := by
    rw [← hsb, hs1, ← hdb]
    exact ⟨fun e => by have := (h.mo.lt _ e).2; omega, fun e => by have := h.lt _ e; omega⟩
  have X1 := hidI (h.quiet f1)
  have HI := hidI I
  have HVB := hidI I.vb
  have D1 := hidI h1
  have d0 : w1.cell? ⟨db, 0, none⟩ = some (.int .i64 kind) := cell_of_row w1 db 0 _ _ _ h1
  have d1 : w1.cell? ⟨db, 1, none⟩ = some (.int .i64 pq) := cell_of_row w1 db 1 _ _ _ h1
  have d3 : w1.cell? ⟨db, 3, none⟩ = some (.int .i64 off) := cell_of_row w1 db 3 _ _ _ h1
  have d5 : w1.cell? ⟨db, 5, none⟩ = some (.slice a2 n c2) := cell_of_row w1 db 5 _ _ _ h1
  obtain ⟨mb, hmb⟩ : ∃ mb, m.mb = mb := ⟨_, rfl⟩
  have m0 : w1.cell? ⟨mb, 0, none⟩ = some (.slice m.ad pages m.c) := by
    rw [← hmb, ← I.rl]
    exact X1.out.mo.c0
  have hxp := I.pg
  have HK : Hid (∃ (is : Bool) (wn : Int), (is = false ∧ wn = 6 ∧ (pq < 0 ∨ (pages : Int) ≤ pq)) ∨ (is = true ∧ ∃ (q : Nat) (bz : Bool), pq = (q : Int) ∧ q < pages ∧ (bz = true ↔ Busy x q) ∧ wn = (if bz then 9 else 0) ∧ ∀ w', Fr [] w1 w' → Calls Tryz.prog 76 #[.pointer (some ⟨mb, 0, none⟩), .int .i64 (q : Int), .int .i64 (most : Int)] w' fun e w'' => e = .returned (.bool bz) ∧ w'' = w')) := hidI (by
    by_cases hin : 0 ≤ pq ∧ pq < (pages : Int)
    · obtain ⟨q, rfl⟩ : ∃ q : Nat, pq = (q : Int) := ⟨pq.toNat, by omega⟩
      obtain ⟨bz, hbz, FX⟩ := X1.out.full HI.out hp (q := q) (by omega)
      rw [hmb] at FX
      exact ⟨true, if bz then 9 else 0, Or.inr ⟨rfl, q, bz, rfl, by omega, hbz, rfl, FX⟩⟩
    · exact ⟨false, 6, Or.inl ⟨rfl, rfl, by omega⟩⟩)
  obtain ⟨is, wn, HK⟩ : ∃ (is : Bool) (wn : Int), Hid ((is = false ∧ wn = 6 ∧ (pq < 0 ∨ (pages : Int) ≤ pq)) ∨ (is = true ∧ ∃ (q : Nat) (bz : Bool), pq = (q : Int) ∧ q < pages ∧ (bz = true ↔ Busy x q) ∧ wn = (if bz then 9 else 0) ∧ ∀ w', Fr [] w1 w' → Calls Tryz.prog 76 #[.pointer (some ⟨mb, 0, none⟩), .int .i64 (q : Int), .int .i64 (most : Int)] w' fun e w'' => e = .returned (.bool bz) ∧ w'' = w')) := by
    obtain ⟨is, wn, hh⟩ := HK.out
    exact ⟨is, wn, hidI hh⟩
  rw [hmb]
  have k0 : (k == 0) = false := by
    rw [beq_eq_false_iff_ne]
    omega
  have HHK := hidI hk
  clear h I f1 h1 hn hk hs1
  go_enter Tryz.func18, Tryz.ntmps18
  go_upto_region 2 with fail
  go_cut [10] from 32 to 40 (fun s10 wx => s10 = .bool is ∧ wx = w1)
  case first =>
    rcases HK.out with ⟨his, _, hbad⟩ | ⟨his, q, _, hq, hlt, _⟩
    · by_cases hneg : pq < 0
      · have q0 : ¬ 0 ≤ pq := by omega
        go_wp2_with fail
        go_meet
        exact ⟨by rw [his], rfl⟩
      · have q0 : 0 ≤ pq := by omega
        have q1 : ¬ pq < (pages : Int) := by omega
        go_wp2_with fail
        go_meet
        exact ⟨by rw [his], rfl⟩
    · have q0 : 0 ≤ pq := by omega
      have q1 : pq < (pages : Int) := by omega
      clear hq
      go_wp2_with fail
      go_meet
      exact ⟨by rw [his], rfl⟩
  case rest =>
    obtain ⟨rfl, hz⟩ := hcut
    rw [hz]
    clear hz m0
    go_upto_block 0 with fail
    go_cut [11] from 41 to 49 (fun s11 wx => s11 = .int .i64 wn ∧ wx = w1)
    case first =>
      rcases HK.out with ⟨his, hwn, _⟩ | ⟨his, q, bz, hq, _, _, hwn, FX⟩
      · subst his
        go_wp2_with fail
        go_meet
        exact ⟨by rw [hwn], rfl⟩
      · have HFX := hidI FX
        clear FX
        subst his
        subst hq
        cases bz with
        | true =>
          go_wp2_with (go_at_call 76; refine (HFX.out _ (Fr.refl [] w1)).mono ?_; rintro e wz ⟨rfl, hz⟩; rw [hz]; clear hz)
          go_meet
          exact ⟨by rw [hwn]; rfl, rfl⟩
        | false =>
          go_wp2_with (go_at_call 76; refine (HFX.out _ (Fr.refl [] w1)).mono ?_; rintro e wz ⟨rfl, hz⟩; rw [hz]; clear hz)
          go_meet
          exact ⟨by rw [hwn]; rfl, rfl⟩
    case rest =>
      obtain ⟨rfl, hz⟩ := hcut
      rw [hz]
      clear hz
      go_upto_if 110 with (go_at_call 40; refine (PK.out _).mono ?_; rintro e wz ⟨rfl, hz⟩; rw [hz]; clear hz)
      go_cut [110] from 111 to 113 (fun s110 wx => s110 = .bool true ∧ wx = w1)
      case first =>
        rcases HHK.out with rfl | rfl | rfl
        all_goals
          go_wp2_with fail
          go_meet
          exact ⟨rfl, rfl⟩
      case rest =>
        obtain ⟨rfl, hz⟩ := hcut
        rw [hz]
        clear hz k0 d0
        have f2 : Fr [] w1 (w1.alloc (.cells #[.int .i64 pq, .int .i64 off, .slice none 0 0, .slice a2 n c2] 42)) := (Fr.refl [] w1).alloc _
        have h2 := heap_alloc_new w1 (.cells #[.int .i64 pq, .int .i64 off, .slice none 0 0, .slice a2 n c2] 42)
        rw [hsb] at h2
        obtain ⟨w2, hw2⟩ : ∃ w2, w1.alloc (.cells #[.int .i64 pq, .int .i64 off, .slice none 0 0, .slice a2 n c2] 42) = w2 := ⟨_, rfl⟩
        rw [hw2] at f2 h2
        have C2 : Hid (CB w0 w2 rg x m pages most J db sb #[.int .i64 kind, .int .i64 pq, .int .i64 blk, .int .i64 off, .slice a1 l1.length c1, .slice a2 n c2, .int .i64 N, .bool odd] #[.int .i64 pq, .int .i64 off, .slice none 0 0, .slice a2 n c2]) := hidI ⟨X1.out.quiet f2, HI.out, f2.same (by simp) D1.out, h2, hdn, hsn⟩
        have d6 : w2.cell? ⟨db, 6, none⟩ = some (.int .i64 N) := cell_of_row w2 db 6 _ _ _ C2.out.d
        have d7 : w2.cell? ⟨db, 7, none⟩ = some (.bool odd) := cell_of_row w2 db 7 _ _ _ C2.out.d
        clear f2 h2
        go_upto_if 127 with fail
        go_cut [15] from 128 to 130 (fun s15 wx => ∃ lsn : Int, s15 = .int .i64 lsn ∧ Hid (∃ x3, CB w0 wx rg x3 m pages most (J + 1) db sb #[.int .i64 kind, .int .i64 pq, .int .i64 blk, .int .i64 off, .slice a1 l1.length c1, .slice a2 n c2, .int .i64 N, .bool odd] #[.int .i64 pq, .int .i64 off, .slice none 0 0, .slice a2 n c2] ∧ ∀ q, Busy x3 q ↔ Busy x q))
        case first =>
          cases odd with
          | true =>
            go_wp2_with fail
            go_meet
            exact ⟨N, rfl, hidI ⟨x, C2.out.low (by omega), fun q => Iff.rfl⟩⟩
          | false =>
            have APP := rig_app1w C2.out.pd.rig pq off l2 none 0 0 a2 c2 (HB2.out.kept C2.out.pd.fr (by simp)) (by rw [HN.out]; exact HZ2.out) ((bytes_low HB2.out).imp id (fun hb b o e hm => by
              have h1 := hb b o e
              have h3 := C2.out.pd.new b (List.mem_cons_of_mem _ (List.mem_cons_of_mem _ (List.mem_cons_of_mem _ (List.mem_append_right _ hm))))
              omega)) (by rw [HN.out]; exact h2000) (by have := HI.out.E; omega) (by rw [HI.out.T1]; exact Nat.le_refl _) HI.out.c12
            rw [HN.out] at APP
            have s0 : w2.cell? ⟨sb, 0, none⟩ = some (.int .i64 pq) := cell_of_row w2 sb 0 _ _ _ C2.out.s
            have s1 : w2.cell? ⟨sb, 1, none⟩ = some (.int .i64 off) := cell_of_row w2 sb 1 _ _ _ C2.out.s
            have s2 : w2.cell? ⟨sb, 2, none⟩ = some (.slice none 0 0) := cell_of_row w2 sb 2 _ _ _ C2.out.s
            have s3 : w2.cell? ⟨sb, 3, none⟩ = some (.slice a2 n c2) := cell_of_row w2 sb 3 _ _ _ C2.out.s
            go_wp2_with (go_at_call 70; refine APP.mono ?_; rintro e w3 ⟨lsn, rfl, y', RA⟩)
            go_meet
            exact ⟨(lsn : Int), rfl, hidI ⟨_, C2.out.step RA.st RA.at' rfl (HI.out.grew RA.gr), fun q => Iff.rfl⟩⟩
        case rest =>
          obtain ⟨lsn, rfl, HC⟩ := hcut
          obtain ⟨x3, HC3⟩ : ∃ x3, Hid (CB w0 wc rg x3 m pages most (J + 1) db sb #[.int .i64 kind, .int .i64 pq, .int .i64 blk, .int .i64 off, .slice a1 l1.length c1, .slice a2 n c2, .int .i64 N, .bool odd] #[.int .i64 pq, .int .i64 off, .slice none 0 0, .slice a2 n c2] ∧ ∀ q, Busy x3 q ↔ Busy x q) := by
            obtain ⟨x3, hh⟩ := HC.out
            exact ⟨x3, hidI hh⟩
          clear HC C2 d6 d7 d1 d3 d5 hw2 hw1 D1 X1 HI hdn hsn hsb
          generalize wc = wd at *
          obtain ⟨es, hes⟩ : ∃ es : Int, (x3.y.E : Int) + 1 = es := ⟨_, rfl⟩
          obtain ⟨fit, hfit⟩ : ∃ fit : Bool, fit = (mayB off n && decide (1 ≤ lsn) && decide (lsn < es)) := ⟨_, rfl⟩
          have HFIT := hidI hfit
          have HES := hidI hes
          have EX : Hid (Calls Tryz.prog 77 #[.pointer (some ⟨x3.y.p, 0, none⟩)] wd fun e w'' => e = .returned (.int .i64 es) ∧ w'' = wd) := hidI (by
            rw [← hes]
            exact lo_end HC3.out.1.pd.rig.po.lo)
          clear hfit hes
          have s1 : wd.cell? ⟨sb, 1, none⟩ = some (.int .i64 off) := cell_of_row wd sb 1 _ _ _ HC3.out.1.s
          have s3 : wd.cell? ⟨sb, 3, none⟩ = some (.slice a2 n c2) := cell_of_row wd sb 3 _ _ _ HC3.out.1.s
          have r1 : wd.cell? ⟨rg, 1, none⟩ = some (.pointer (some ⟨x3.y.p, 0, none⟩)) := HC3.out.1.pd.l
          go_upto_region 22 with fail
          go_cut [16] from 131 to 166 (fun s16 wx => s16 = .bool fit ∧ wx = wd)
          case first =>
            obtain ⟨oa, ob⟩ := i64_bounds o1
            by_cases t1 : 0 ≤ off
            · by_cases t2 : off ≤ 512
              · by_cases t3 : n = 0
                · subst t3
                  have hf : fit = false := by rw [HFIT.out]; unfold mayB; simp
                  clear EX
                  go_wp2_with fail
                  go_meet
                  exact ⟨by rw [hf], rfl⟩
                · have t4 : (0 : Int) < (n : Int) := by omega
                  have e1 : IntKind.i64.wrap (off + (n : Int)) = off + (n : Int) := wrapI _ (by omega) (by omega)
                  by_cases t5 : off + (n : Int) ≤ 512
                  · by_cases t6 : 1 ≤ lsn
                    · by_cases t7 : lsn < es
                      · have hf : fit = true := by rw [HFIT.out]; unfold mayB; rw [decide_eq_true t1, decide_eq_true t2, decide_eq_true (show 0 < n by omega), decide_eq_true t5, decide_eq_true t6, decide_eq_true t7]; rfl
                        go_wp2_with (go_at_call 77; refine EX.out.mono ?_; rintro e wz ⟨rfl, hz⟩; rw [hz]; clear hz)
                        go_meet
                        exact ⟨by rw [hf], rfl⟩
                      · have hf : fit = false := by rw [HFIT.out, decide_eq_false t7]; simp
                        go_wp2_with (go_at_call 77; refine EX.out.mono ?_; rintro e wz ⟨rfl, hz⟩; rw [hz]; clear hz)
                        go_meet
                        exact ⟨by rw [hf, decide_eq_false (show ¬ lsn < es by omega)], rfl⟩
                    · have hf : fit = false := by rw [HFIT.out, decide_eq_false t6]; simp
                      clear EX
                      go_wp2_with fail
                      go_meet
                      exact ⟨by rw [hf], rfl⟩
                  · have hf : fit = false := by rw [HFIT.out]; unfold mayB; rw [decide_eq_false t5]; simp
                    clear EX
                    go_wp2_with fail
                    go_meet
                    exact ⟨by rw [hf], rfl⟩
              · have hf : fit = false := by rw [HFIT.out]; unfold mayB; rw [decide_eq_false t2]; simp
                clear EX
                go_wp2_with fail
                go_meet
                exact ⟨by rw [hf], rfl⟩
            · have hf : fit = false := by rw [HFIT.out]; unfold mayB; rw [decide_eq_false t1]; simp
              clear EX
              go_wp2_with fail
              go_meet
              exact ⟨by rw [hf], rfl⟩
          case rest =>
            obtain ⟨rfl, hz⟩ := hcut
            rw [hz]
            clear hz EX s1 s3 r1
            rcases HK.out with ⟨his, hwn, hout⟩ | ⟨his, q, bz, hq, hqp, hbz, hwn, _⟩
            · subst his
              subst hwn
              have hx3 := HC3.out.1.iv.pg
              have CHX : Hid (∀ w' g1 k1 g2 k2, Fr [] wd w' → Calls Tryz.prog 69 #[.pointer (some ⟨x3.pp, 0, none⟩), .agg #[.int .i64 pq, .int .i64 off, .slice (some ⟨g1, 0, none⟩) 0 k1, .slice (some ⟨g2, 0, none⟩) n k2], .int .i64 lsn] w' fun e w'' => e = .returned (.int .i64 6) ∧ Fr [] w' w'') := hidI (fun w' g1 k1 g2 k2 f => change_out (HC3.out.1.quiet f).pd.rig.po (by rw [hx3]; exact hout) off lsn _ _ 0 k1 n k2)
              have s0 : wd.cell? ⟨sb, 0, none⟩ = some (.int .i64 pq) := cell_of_row wd sb 0 _ _ _ HC3.out.1.s
              have s1 : wd.cell? ⟨sb, 1, none⟩ = some (.int .i64 off) := cell_of_row wd sb 1 _ _ _ HC3.out.1.s
              have s2 : wd.cell? ⟨sb, 2, none⟩ = some (.slice none 0 0) := cell_of_row wd sb 2 _ _ _ HC3.out.1.s
              have s3 : wd.cell? ⟨sb, 3, none⟩ = some (.slice a2 n c2) := cell_of_row wd sb 3 _ _ _ HC3.out.1.s
              have BW : Hid (∀ w', Fr [] wd w' → BytesAt w' a2 l2) := hidI (fun w' f => HB2.out.kept (HC3.out.1.pd.fr.trans f) (by simp))
              have PL := plent wd pq off a2 n c2 l2 HN.out (BW.out wd (Fr.refl _ _)) HZ2.out (by omega)
              go_upto_region 26 with (go_at_call 78; refine PL.mono ?_; rintro e w4 ⟨g1, k1, g2, k2, rfl, HL⟩)
              obtain ⟨L1, L2, hg1, hg2, f4⟩ := HL.out
              have f5 : Fr [] w4 (w4.alloc (.cells #[.int .i64 pq, .int .i64 off, .slice (some ⟨g1, 0, none⟩) 0 k1, .slice (some ⟨g2, 0, none⟩) n k2] 42)) := (Fr.refl [] w4).alloc _
              have h5 := heap_alloc_new w4 (.cells #[.int .i64 pq, .int .i64 off, .slice (some ⟨g1, 0, none⟩) 0 k1, .slice (some ⟨g2, 0, none⟩) n k2] 42)
              obtain ⟨kb, hkb⟩ : ∃ kb, w4.heap.size = kb := ⟨_, rfl⟩
              rw [hkb] at h5 ⊢
              obtain ⟨w5, hw5⟩ : ∃ w5, w4.alloc (.cells #[.int .i64 pq, .int .i64 off, .slice (some ⟨g1, 0, none⟩) 0 k1, .slice (some ⟨g2, 0, none⟩) n k2] 42) = w5 := ⟨_, rfl⟩
              rw [hw5] at f5 h5 ⊢
              have CH := CHX.out _ g1 k1 g2 k2 (f4.trans (f5.trans (Fr.refl [] w5).drew))
              have KC : Hid (∀ w', Fr [] w5 w' → w'.cell? ⟨rg, 2, none⟩ = some (.pointer (some ⟨x3.pp, 0, none⟩)) ∧ (w'.cell? ⟨kb, 0, none⟩ = some (.int .i64 pq) ∧ w'.cell? ⟨kb, 1, none⟩ = some (.int .i64 off) ∧ w'.cell? ⟨kb, 2, none⟩ = some (.slice (some ⟨g1, 0, none⟩) 0 k1) ∧ w'.cell? ⟨kb, 3, none⟩ = some (.slice (some ⟨g2, 0, none⟩) n k2)) ∧ w'.cell? ⟨sb, 0, none⟩ = some (.int .i64 pq) ∧ w'.cell? ⟨sb, 1, none⟩ = some (.int .i64 off) ∧ w'.cell? ⟨sb, 2, none⟩ = some (.slice none 0 0) ∧ w'.cell? ⟨sb, 3, none⟩ = some (.slice a2 n c2)) := hidI (fun w' f => by
                have hk := f.same (by simp) h5
                have C9 := HC3.out.1.quiet (f4.trans (f5.trans f))
                exact ⟨C9.pd.p, ⟨cell_of_row w' kb 0 _ _ _ hk, cell_of_row w' kb 1 _ _ _ hk, cell_of_row w' kb 2 _ _ _ hk, cell_of_row w' kb 3 _ _ _ hk⟩, cell_of_row w' sb 0 _ _ _ C9.s, cell_of_row w' sb 1 _ _ _ C9.s, cell_of_row w' sb 2 _ _ _ C9.s, cell_of_row w' sb 3 _ _ _ C9.s⟩)
              have HF45 := hidI (f4.trans f5)
              have HL1 := hidI (L1.kept f5 (by simp))
              have HL2 := hidI (L2.kept f5 (by simp))
              have HG := hidI (And.intro hg1 hg2)
              clear s0 s1 s2 s3 PL HL L1 L2 hg1 hg2 f4 f5 h5 hw5 hkb
              go_region_held3 (fun w' => w'.cell? ⟨rg, 2, none⟩ = some (.pointer (some ⟨x3.pp, 0, none⟩)) ∧ w'.cell? ⟨kb, 0, none⟩ = some (.int .i64 pq) ∧ w'.cell? ⟨kb, 1, none⟩ = some (.int .i64 off) ∧ w'.cell? ⟨kb, 2, none⟩ = some (.slice (some ⟨g1, 0, none⟩) 0 k1) ∧ w'.cell? ⟨kb, 3, none⟩ = some (.slice (some ⟨g2, 0, none⟩) n k2)) (first | exact ⟨(KC.out _ (Fr.refl [] w5).drew).1, (KC.out _ (Fr.refl [] w5).drew).2.1⟩ | exact KK) ((first
                | (go_at_call 69; refine CH.mono ?_; rintro e w6 ⟨rfl, f6⟩; have F6 := hidI ((Fr.refl [] w5).drew.trans f6); have KK := And.intro (KC.out _ F6.out).1 (KC.out _ F6.out).2.1; clear f6)))
              obtain ⟨_, ⟨b0, b1, b2, b3⟩, z0, z1, z2, z3⟩ := KC.out _ F6.out
              have KP := pkept w6 pq off g1 k1 g2 k2 a2 n c2 l2 HN.out (HL1.out.kept F6.out (by simp)) (HL2.out.kept F6.out (by simp)) (BW.out w6 (HF45.out.trans F6.out)) HZ2.out (by omega)
              clear KK CH
              go_upto_region 29 with (go_at_call 79; refine KP.mono ?_; rintro e w7 ⟨rfl, f7⟩)
              have F7 := hidI (F6.out.trans f7)
              clear KP b0 b1 b2 b3 z0 z1 z2 z3 f7
              obtain ⟨_, ⟨b0, b1, b2, b3⟩, _⟩ := KC.out _ F7.out
              have OV := pover w7 pq off g1 k1 0 g2 k2 n [] l2 (HL1.out.kept F7.out (by simp)) (HL2.out.kept F7.out (by simp)) rfl HN.out (by omega) (by omega)
              go_wp2_with (go_at_call 80; refine OV.mono ?_; rintro e w8 ⟨rfl, f8⟩)
              go_ret
              exact ⟨rfl, hidI ⟨x3, m, hmb, (HC3.out.1.pd.quiet (HF45.out.trans F7.out)).offL f8 (fun g hg => by
                have hh : wd.heap.size ≤ g := by
                  rcases List.mem_cons.1 hg with e | e
                  · rw [e]; exact HG.out.1
                  · rw [List.mem_singleton.1 e]; exact HG.out.2
                have hs := HC3.out.1.pd.fr.size
                exact ⟨by omega, fun e => by have := (HC3.out.1.pd.mo.lt _ e).2; omega, fun e => by have := HC3.out.1.pd.lt _ e; omega⟩), HC3.out.1.iv⟩⟩
            · subst his
              subst hq
              cases fit with
              | false =>
                have hx3 := HC3.out.1.iv.pg
                have CHX : Hid (∀ w' g1 k1 g2 k2, Fr [] wd w' → Calls Tryz.prog 69 #[.pointer (some ⟨x3.pp, 0, none⟩), .agg #[.int .i64 (q : Int), .int .i64 off, .slice (some ⟨g1, 0, none⟩) 0 k1, .slice (some ⟨g2, 0, none⟩) n k2], .int .i64 lsn] w' fun e w'' => e = .returned (.int .i64 2) ∧ Fr [] w' w'') := hidI (fun w' g1 k1 g2 k2 f => by
                  by_cases hm : mayB off n = false
                  · exact change_bad (HC3.out.1.quiet f).pd.rig.po (by rw [hx3]; exact hqp) off lsn _ _ 0 k1 n k2 o1 (by omega) hm
                  · have hm' : mayB off n = true := by simpa using hm
                    refine change_lsn (HC3.out.1.quiet f).pd.rig.po (by rw [hx3]; exact hqp) off lsn _ _ 0 k1 n k2 (by omega) hm' ?_
                    have h1 := HFIT.out
                    rw [hm'] at h1
                    have h2 := HES.out
                    by_cases h3 : lsn < 1
                    · exact Or.inl h3
                    · refine Or.inr ?_
                      rw [decide_eq_true (show 1 ≤ lsn by omega)] at h1
                      have h4 : ¬ lsn < es := fun e => by rw [decide_eq_true e] at h1; cases h1
                      omega)
                clear hwn hbz
                have s0 : wd.cell? ⟨sb, 0, none⟩ = some (.int .i64 (q : Int)) := cell_of_row wd sb 0 _ _ _ HC3.out.1.s
                have s1 : wd.cell? ⟨sb, 1, none⟩ = some (.int .i64 off) := cell_of_row wd sb 1 _ _ _ HC3.out.1.s
                have s2 : wd.cell? ⟨sb, 2, none⟩ = some (.slice none 0 0) := cell_of_row wd sb 2 _ _ _ HC3.out.1.s
                have s3 : wd.cell? ⟨sb, 3, none⟩ = some (.slice a2 n c2) := cell_of_row wd sb 3 _ _ _ HC3.out.1.s
                have BW : Hid (∀ w', Fr [] wd w' → BytesAt w' a2 l2) := hidI (fun w' f => HB2.out.kept (HC3.out.1.pd.fr.trans f) (by simp))
                have PL := plent wd (q : Int) off a2 n c2 l2 HN.out (BW.out wd (Fr.refl _ _)) HZ2.out (by omega)
                go_upto_region 26 with (go_at_call 78; refine PL.mono ?_; rintro e w4 ⟨g1, k1, g2, k2, rfl, HL⟩)
                obtain ⟨L1, L2, hg1, hg2, f4⟩ := HL.out
                have f5 : Fr [] w4 (w4.alloc (.cells #[.int .i64 (q : Int), .int .i64 off, .slice (some ⟨g1, 0, none⟩) 0 k1, .slice (some ⟨g2, 0, none⟩) n k2] 42)) := (Fr.refl [] w4).alloc _
                have h5 := heap_alloc_new w4 (.cells #[.int .i64 (q : Int), .int .i64 off, .slice (some ⟨g1, 0, none⟩) 0 k1, .slice (some ⟨g2, 0, none⟩) n k2] 42)
                obtain ⟨kb, hkb⟩ : ∃ kb, w4.heap.size = kb := ⟨_, rfl⟩
                rw [hkb] at h5 ⊢
                obtain ⟨w5, hw5⟩ : ∃ w5, w4.alloc (.cells #[.int .i64 (q : Int), .int .i64 off, .slice (some ⟨g1, 0, none⟩) 0 k1, .slice (some ⟨g2, 0, none⟩) n k2] 42) = w5 := ⟨_, rfl⟩
                rw [hw5] at f5 h5 ⊢
                have CH := CHX.out _ g1 k1 g2 k2 (f4.trans (f5.trans (Fr.refl [] w5).drew))
                have KC : Hid (∀ w', Fr [] w5 w' → w'.cell? ⟨rg, 2, none⟩ = some (.pointer (some ⟨x3.pp, 0, none⟩)) ∧ (w'.cell? ⟨kb, 0, none⟩ = some (.int .i64 (q : Int)) ∧ w'.cell? ⟨kb, 1, none⟩ = some (.int .i64 off) ∧ w'.cell? ⟨kb, 2, none⟩ = some (.slice (some ⟨g1, 0, none⟩) 0 k1) ∧ w'.cell? ⟨kb, 3, none⟩ = some (.slice (some ⟨g2, 0, none⟩) n k2)) ∧ w'.cell? ⟨sb, 0, none⟩ = some (.int .i64 (q : Int)) ∧ w'.cell? ⟨sb, 1, none⟩ = some (.int .i64 off) ∧ w'.cell? ⟨sb, 2, none⟩ = some (.slice none 0 0) ∧ w'.cell? ⟨sb, 3, none⟩ = some (.slice a2 n c2)) := hidI (fun w' f => by
                  have hk := f.same (by simp) h5
                  have C9 := HC3.out.1.quiet (f4.trans (f5.trans f))
                  exact ⟨C9.pd.p, ⟨cell_of_row w' kb 0 _ _ _ hk, cell_of_row w' kb 1 _ _ _ hk, cell_of_row w' kb 2 _ _ _ hk, cell_of_row w' kb 3 _ _ _ hk⟩, cell_of_row w' sb 0 _ _ _ C9.s, cell_of_row w' sb 1 _ _ _ C9.s, cell_of_row w' sb 2 _ _ _ C9.s, cell_of_row w' sb 3 _ _ _ C9.s⟩)
                have HF45 := hidI (f4.trans f5)
                have HL1 := hidI (L1.kept f5 (by simp))
                have HL2 := hidI (L2.kept f5 (by simp))
                have HG := hidI (And.intro hg1 hg2)
                clear s0 s1 s2 s3 PL HL L1 L2 hg1 hg2 f4 f5 h5 hw5 hkb
                go_region_held3 (fun w' => w'.cell? ⟨rg, 2, none⟩ = some (.pointer (some ⟨x3.pp, 0, none⟩)) ∧ w'.cell? ⟨kb, 0, none⟩ = some (.int .i64 (q : Int)) ∧ w'.cell? ⟨kb, 1, none⟩ = some (.int .i64 off) ∧ w'.cell? ⟨kb, 2, none⟩ = some (.slice (some ⟨g1, 0, none⟩) 0 k1) ∧ w'.cell? ⟨kb, 3, none⟩ = some (.slice (some ⟨g2, 0, none⟩) n k2)) (first | exact ⟨(KC.out _ (Fr.refl [] w5).drew).1, (KC.out _ (Fr.refl [] w5).drew).2.1⟩ | exact KK) ((first
                  | (go_at_call 69; refine CH.mono ?_; rintro e w6 ⟨rfl, f6⟩; have F6 := hidI ((Fr.refl [] w5).drew.trans f6); have KK := And.intro (KC.out _ F6.out).1 (KC.out _ F6.out).2.1; clear f6)))
                obtain ⟨_, ⟨b0, b1, b2, b3⟩, z0, z1, z2, z3⟩ := KC.out _ F6.out
                have KP := pkept w6 (q : Int) off g1 k1 g2 k2 a2 n c2 l2 HN.out (HL1.out.kept F6.out (by simp)) (HL2.out.kept F6.out (by simp)) (BW.out w6 (HF45.out.trans F6.out)) HZ2.out (by omega)
                clear KK CH
                go_upto_region 29 with (go_at_call 79; refine KP.mono ?_; rintro e w7 ⟨rfl, f7⟩)
                have F7 := hidI (F6.out.trans f7)
                clear KP b0 b1 b2 b3 z0 z1 z2 z3 f7
                obtain ⟨_, ⟨b0, b1, b2, b3⟩, _⟩ := KC.out _ F7.out
                have OV := pover w7 (q : Int) off g1 k1 0 g2 k2 n [] l2 (HL1.out.kept F7.out (by simp)) (HL2.out.kept F7.out (by simp)) rfl HN.out (by omega) (by omega)
                go_wp2_with (go_at_call 80; refine OV.mono ?_; rintro e w8 ⟨rfl, f8⟩)
                go_ret
                exact ⟨rfl, hidI ⟨x3, m, hmb, (HC3.out.1.pd.quiet (HF45.out.trans F7.out)).offL f8 (fun g hg => by
                  have hh : wd.heap.size ≤ g := by
                    rcases List.mem_cons.1 hg with e | e
                    · rw [e]; exact HG.out.1
                    · rw [List.mem_singleton.1 e]; exact HG.out.2
                  have hs := HC3.out.1.pd.fr.size
                  exact ⟨by omega, fun e => by have := (HC3.out.1.pd.mo.lt _ e).2; omega, fun e => by have := HC3.out.1.pd.lt _ e; omega⟩), HC3.out.1.iv⟩⟩
              | true =>
                have hx3 := HC3.out.1.iv.pg
                have hF : mayB off n = true ∧ 1 ≤ lsn ∧ lsn ≤ (x3.y.E : Int) := by
                  have h1 := HFIT.out
                  have h2 := HES.out
                  simp at h1
                  exact ⟨h1.1.1, h1.1.2, by omega⟩
                cases bz with
                | true =>
                  have hwn' : wn = 9 := hwn
                  subst hwn'
                  have hB : Busy x3 q := (HC3.out.2 q).2 (hbz.1 rfl)
                  have CHX : Hid (∀ w' g1 k1 g2 k2, Fr [] wd w' → BytesAt w' (some ⟨g2, 0, none⟩) l2 → wd.heap.size ≤ g2 → Calls Tryz.prog 69 #[.pointer (some ⟨x3.pp, 0, none⟩), .agg #[.int .i64 (q : Int), .int .i64 off, .slice (some ⟨g1, 0, none⟩) 0 k1, .slice (some ⟨g2, 0, none⟩) n k2], .int .i64 lsn] w' fun e w'' => e = .returned (.int .i64 9) ∧ Fr [] w' w'') := hidI (fun w' g1 k1 g2 k2 f hby hg2 => pchange_busy (HC3.out.1.quiet f).pd (by rw [hx3]; exact hqp) hB off _ 0 k1 _ n k2 l2 HN.out hF.1 hby (fun b o e hm => by
                    cases e
                    have := HC3.out.1.pd.lt _ (List.mem_cons_of_mem _ (List.mem_cons_of_mem _ hm))
                    omega) lsn hF.2.1 hF.2.2)
                  clear hbz hB hwn hF
                  have s0 : wd.cell? ⟨sb, 0, none⟩ = some (.int .i64 (q : Int)) := cell_of_row wd sb 0 _ _ _ HC3.out.1.s
                  have s1 : wd.cell? ⟨sb, 1, none⟩ = some (.int .i64 off) := cell_of_row wd sb 1 _ _ _ HC3.out.1.s
                  have s2 : wd.cell? ⟨sb, 2, none⟩ = some (.slice none 0 0) := cell_of_row wd sb 2 _ _ _ HC3.out.1.s
                  have s3 : wd.cell? ⟨sb, 3, none⟩ = some (.slice a2 n c2) := cell_of_row wd sb 3 _ _ _ HC3.out.1.s
                  have BW : Hid (∀ w', Fr [] wd w' → BytesAt w' a2 l2) := hidI (fun w' f => HB2.out.kept (HC3.out.1.pd.fr.trans f) (by simp))
                  have PL := plent wd (q : Int) off a2 n c2 l2 HN.out (BW.out wd (Fr.refl _ _)) HZ2.out (by omega)
                  go_upto_region 26 with (go_at_call 78; refine PL.mono ?_; rintro e w4 ⟨g1, k1, g2, k2, rfl, HL⟩)
                  obtain ⟨L1, L2, hg1, hg2, f4⟩ := HL.out
                  have f5 : Fr [] w4 (w4.alloc (.cells #[.int .i64 (q : Int), .int .i64 off, .slice (some ⟨g1, 0, none⟩) 0 k1, .slice (some ⟨g2, 0, none⟩) n k2] 42)) := (Fr.refl [] w4).alloc _
                  have h5 := heap_alloc_new w4 (.cells #[.int .i64 (q : Int), .int .i64 off, .slice (some ⟨g1, 0, none⟩) 0 k1, .slice (some ⟨g2, 0, none⟩) n k2] 42)
                  obtain ⟨kb, hkb⟩ : ∃ kb, w4.heap.size = kb := ⟨_, rfl⟩
                  rw [hkb] at h5 ⊢
                  obtain ⟨w5, hw5⟩ : ∃ w5, w4.alloc (.cells #[.int .i64 (q : Int), .int .i64 off, .slice (some ⟨g1, 0, none⟩) 0 k1, .slice (some ⟨g2, 0, none⟩) n k2] 42) = w5 := ⟨_, rfl⟩
                  rw [hw5] at f5 h5 ⊢
                  have CH := CHX.out _ g1 k1 g2 k2 (f4.trans (f5.trans (Fr.refl [] w5).drew)) ((L2.kept (f5.trans (Fr.refl [] w5).drew) (by simp)).bytes) hg2
                  have KC : Hid (∀ w', Fr [] w5 w' → w'.cell? ⟨rg, 2, none⟩ = some (.pointer (some ⟨x3.pp, 0, none⟩)) ∧ (w'.cell? ⟨kb, 0, none⟩ = some (.int .i64 (q : Int)) ∧ w'.cell? ⟨kb, 1, none⟩ = some (.int .i64 off) ∧ w'.cell? ⟨kb, 2, none⟩ = some (.slice (some ⟨g1, 0, none⟩) 0 k1) ∧ w'.cell? ⟨kb, 3, none⟩ = some (.slice (some ⟨g2, 0, none⟩) n k2)) ∧ w'.cell? ⟨sb, 0, none⟩ = some (.int .i64 (q : Int)) ∧ w'.cell? ⟨sb, 1, none⟩ = some (.int .i64 off) ∧ w'.cell? ⟨sb, 2, none⟩ = some (.slice none 0 0) ∧ w'.cell? ⟨sb, 3, none⟩ = some (.slice a2 n c2)) := hidI (fun w' f => by
                    have hk := f.same (by simp) h5
                    have C9 := HC3.out.1.quiet (f4.trans (f5.trans f))
                    exact ⟨C9.pd.p, ⟨cell_of_row w' kb 0 _ _ _ hk, cell_of_row w' kb 1 _ _ _ hk, cell_of_row w' kb 2 _ _ _ hk, cell_of_row w' kb 3 _ _ _ hk⟩, cell_of_row w' sb 0 _ _ _ C9.s, cell_of_row w' sb 1 _ _ _ C9.s, cell_of_row w' sb 2 _ _ _ C9.s, cell_of_row w' sb 3 _ _ _ C9.s⟩)
                  have HF45 := hidI (f4.trans f5)
                  have HL1 := hidI (L1.kept f5 (by simp))
                  have HL2 := hidI (L2.kept f5 (by simp))
                  have HG := hidI (And.intro hg1 hg2)
                  clear s0 s1 s2 s3 PL HL L1 L2 hg1 hg2 f4 f5 h5 hw5 hkb
                  go_region_held3 (fun w' => w'.cell? ⟨rg, 2, none⟩ = some (.pointer (some ⟨x3.pp, 0, none⟩)) ∧ w'.cell? ⟨kb, 0, none⟩ = some (.int .i64 (q : Int)) ∧ w'.cell? ⟨kb, 1, none⟩ = some (.int .i64 off) ∧ w'.cell? ⟨kb, 2, none⟩ = some (.slice (some ⟨g1, 0, none⟩) 0 k1) ∧ w'.cell? ⟨kb, 3, none⟩ = some (.slice (some ⟨g2, 0, none⟩) n k2)) (first | exact ⟨(KC.out _ (Fr.refl [] w5).drew).1, (KC.out _ (Fr.refl [] w5).drew).2.1⟩ | exact KK) ((first
                    | (go_at_call 69; refine CH.mono ?_; rintro e w6 ⟨rfl, f6⟩; have F6 := hidI ((Fr.refl [] w5).drew.trans f6); have KK := And.intro (KC.out _ F6.out).1 (KC.out _ F6.out).2.1; clear f6)))
                  obtain ⟨_, ⟨b0, b1, b2, b3⟩, z0, z1, z2, z3⟩ := KC.out _ F6.out
                  have KP := pkept w6 (q : Int) off g1 k1 g2 k2 a2 n c2 l2 HN.out (HL1.out.kept F6.out (by simp)) (HL2.out.kept F6.out (by simp)) (BW.out w6 (HF45.out.trans F6.out)) HZ2.out (by omega)
                  clear KK CH
                  go_upto_region 29 with (go_at_call 79; refine KP.mono ?_; rintro e w7 ⟨rfl, f7⟩)
                  have F7 := hidI (F6.out.trans f7)
                  clear KP b0 b1 b2 b3 z0 z1 z2 z3 f7
                  obtain ⟨_, ⟨b0, b1, b2, b3⟩, _⟩ := KC.out _ F7.out
                  have OV := pover w7 (q : Int) off g1 k1 0 g2 k2 n [] l2 (HL1.out.kept F7.out (by simp)) (HL2.out.kept F7.out (by simp)) rfl HN.out (by omega) (by omega)
                  go_wp2_with (go_at_call 80; refine OV.mono ?_; rintro e w8 ⟨rfl, f8⟩)
                  go_ret
                  exact ⟨rfl, hidI ⟨x3, m, hmb, (HC3.out.1.pd.quiet (HF45.out.trans F7.out)).offL f8 (fun g hg => by
                    have hh : wd.heap.size ≤ g := by
                      rcases List.mem_cons.1 hg with e | e
                      · rw [e]; exact HG.out.1
                      · rw [List.mem_singleton.1 e]; exact HG.out.2
                    have hs := HC3.out.1.pd.fr.size
                    exact ⟨by omega, fun e => by have := (HC3.out.1.pd.mo.lt _ e).2; omega, fun e => by have := HC3.out.1.pd.lt _ e; omega⟩), HC3.out.1.iv⟩⟩
                | false =>
                  have hwn' : wn = 0 := hwn
                  subst hwn'
                  have hB : ¬ Busy x3 q := fun e => by
                    have := hbz.2 ((HC3.out.2 q).1 e)
                    cases this
                  obtain ⟨o, rfl⟩ : ∃ o : Nat, off = (o : Int) := ⟨off.toNat, by have h1 := hF.1; unfold mayB at h1; simp at h1; omega⟩
                  have HO : Hid (0 < n ∧ o + n ≤ 512) := hidI (by
                    have h1 := hF.1
                    unfold mayB at h1
                    simp at h1
                    omega)
                  have HI3 := hidI HC3.out.1.iv
                  have CHX : Hid (∀ w' g1 k1 g2 k2, Fr [] wd w' → BytesAt w' (some ⟨g2, 0, none⟩) l2 → wd.heap.size ≤ g2 → Calls Tryz.prog 69 #[.pointer (some ⟨x3.pp, 0, none⟩), .agg #[.int .i64 (q : Int), .int .i64 (o : Int), .slice (some ⟨g1, 0, none⟩) 0 k1, .slice (some ⟨g2, 0, none⟩) n k2], .int .i64 lsn] w' fun e w'' => e = .returned (.int .i64 0) ∧ Hid (∃ x4, PChg w0 w' w'' rg x3 m pages most (J + 1) q o l2 lsn x4)) := hidI (fun w' g1 k1 g2 k2 f hby hg2 => pchange_fine (HC3.out.1.quiet f).pd HI3.out (by rw [hx3]; exact hqp) hB o _ 0 k1 _ n k2 l2 HN.out hF.1 hby (fun b o e hm => by
                    cases e
                    have := HC3.out.1.pd.lt _ (List.mem_cons_of_mem _ (List.mem_cons_of_mem _ hm))
                    omega) lsn hF.2.1 hF.2.2)
                  clear hbz hB hwn hF
                  have s0 : wd.cell? ⟨sb, 0, none⟩ = some (.int .i64 (q : Int)) := cell_of_row wd sb 0 _ _ _ HC3.out.1.s
                  have s1 : wd.cell? ⟨sb, 1, none⟩ = some (.int .i64 (o : Int)) := cell_of_row wd sb 1 _ _ _ HC3.out.1.s
                  have s2 : wd.cell? ⟨sb, 2, none⟩ = some (.slice none 0 0) := cell_of_row wd sb 2 _ _ _ HC3.out.1.s
                  have s3 : wd.cell? ⟨sb, 3, none⟩ = some (.slice a2 n c2) := cell_of_row wd sb 3 _ _ _ HC3.out.1.s
                  have PL := plent wd (q : Int) (o : Int) a2 n c2 l2 HN.out (HB2.out.kept HC3.out.1.pd.fr (by simp)) HZ2.out (by omega)
                  go_upto_region 26 with (go_at_call 78; refine PL.mono ?_; rintro e w4 ⟨g1, k1, g2, k2, rfl, HL⟩)
                  obtain ⟨L1, L2, hg1, hg2, f4⟩ := HL.out
                  have f5 : Fr [] w4 (w4.alloc (.cells #[.int .i64 (q : Int), .int .i64 (o : Int), .slice (some ⟨g1, 0, none⟩) 0 k1, .slice (some ⟨g2, 0, none⟩) n k2] 42)) := (Fr.refl [] w4).alloc _
                  have h5 := heap_alloc_new w4 (.cells #[.int .i64 (q : Int), .int .i64 (o : Int), .slice (some ⟨g1, 0, none⟩) 0 k1, .slice (some ⟨g2, 0, none⟩) n k2] 42)
                  obtain ⟨kb, hkb⟩ : ∃ kb, w4.heap.size = kb := ⟨_, rfl⟩
                  have hkb0 : wd.heap.size ≤ kb := by rw [← hkb]; exact f4.size
                  rw [hkb] at h5 ⊢
                  obtain ⟨w5, hw5⟩ : ∃ w5, w4.alloc (.cells #[.int .i64 (q : Int), .int .i64 (o : Int), .slice (some ⟨g1, 0, none⟩) 0 k1, .slice (some ⟨g2, 0, none⟩) n k2] 42) = w5 := ⟨_, rfl⟩
                  rw [hw5] at f5 h5 ⊢
                  have CH := CHX.out _ g1 k1 g2 k2 (f4.trans (f5.trans (Fr.refl [] w5).drew)) ((L2.kept (f5.trans (Fr.refl [] w5).drew) (by simp)).bytes) hg2
                  have HC5 := hidI (HC3.out.1.quiet (f4.trans (f5.trans (Fr.refl [] w5).drew)))
                  have hlo : ∀ k, wd.heap.size ≤ k → k ∉ m.own ∧ k ∉ rg :: x3.pp :: x3.own := fun k hk => ⟨fun e => by have := (HC3.out.1.pd.mo.lt _ e).2; omega, fun e => by have := HC3.out.1.pd.lt _ e; omega⟩
                  have HLO := hidI hlo
                  have r2 : w5.drew.cell? ⟨rg, 2, none⟩ = some (.pointer (some ⟨x3.pp, 0, none⟩)) := HC5.out.pd.p
                  have h5d := hidI ((Fr.refl [] w5).drew.same (by simp) h5)
                  have b0 : w5.drew.cell? ⟨kb, 0, none⟩ = some (.int .i64 (q : Int)) := cell_of_row w5.drew kb 0 _ _ _ h5d.out
                  have b1 : w5.drew.cell? ⟨kb, 1, none⟩ = some (.int .i64 (o : Int)) := cell_of_row w5.drew kb 1 _ _ _ h5d.out
                  have b2 : w5.drew.cell? ⟨kb, 2, none⟩ = some (.slice (some ⟨g1, 0, none⟩) 0 k1) := cell_of_row w5.drew kb 2 _ _ _ h5d.out
                  have b3 : w5.drew.cell? ⟨kb, 3, none⟩ = some (.slice (some ⟨g2, 0, none⟩) n k2) := cell_of_row w5.drew kb 3 _ _ _ h5d.out
                  have HL1 := hidI (L1.kept (f5.trans (Fr.refl [] w5).drew) (by simp))
                  have HL2 := hidI (L2.kept (f5.trans (Fr.refl [] w5).drew) (by simp))
                  have HG := hidI (And.intro hg1 (And.intro hg2 (And.intro hkb0 (And.intro L1.lt (And.intro L2.lt (f5.trans (Fr.refl [] w5).drew).size)))))
                  clear s0 s1 s2 s3 PL HL L1 L2 hg1 hg2 f4 f5 h5 hw5 hkb hkb0 hlo
                  go_region_held3 (fun w' => w'.cell? ⟨rg, 2, none⟩ = some (.pointer (some ⟨x3.pp, 0, none⟩)) ∧ w'.cell? ⟨kb, 0, none⟩ = some (.int .i64 (q : Int)) ∧ w'.cell? ⟨kb, 1, none⟩ = some (.int .i64 (o : Int)) ∧ w'.cell? ⟨kb, 2, none⟩ = some (.slice (some ⟨g1, 0, none⟩) 0 k1) ∧ w'.cell? ⟨kb, 3, none⟩ = some (.slice (some ⟨g2, 0, none⟩) n k2)) (first | exact ⟨r2, b0, b1, b2, b3⟩ | exact KK) ((first
                    | (go_at_call 69; refine CH.mono ?_; rintro e w6 ⟨rfl, P6⟩; have KK : w6.cell? ⟨rg, 2, none⟩ = some (.pointer (some ⟨x3.pp, 0, none⟩)) ∧ w6.cell? ⟨kb, 0, none⟩ = some (.int .i64 (q : Int)) ∧ w6.cell? ⟨kb, 1, none⟩ = some (.int .i64 (o : Int)) ∧ w6.cell? ⟨kb, 2, none⟩ = some (.slice (some ⟨g1, 0, none⟩) 0 k1) ∧ w6.cell? ⟨kb, 3, none⟩ = some (.slice (some ⟨g2, 0, none⟩) n k2) := (by
                        obtain ⟨x4, P, f6, _, hpp, _⟩ := P6.out
                        have hk := f6.same (fun e => (HLO.out kb HG.out.2.2.1).2 (List.mem_cons_of_mem _ (List.mem_cons_of_mem _ e))) h5d.out
                        have h9 := P.p
                        rw [hpp] at h9
                        exact ⟨h9, cell_of_row w6 kb 0 _ _ _ hk, cell_of_row w6 kb 1 _ _ _ hk, cell_of_row w6 kb 2 _ _ _ hk, cell_of_row w6 kb 3 _ _ _ hk⟩))))
                  obtain ⟨x4, P, f6, how, hpp, hiv⟩ := P6.out
                  have X6 := hidI P
                  have HIV := hidI hiv
                  have hk6 := f6.same (fun e => (HLO.out kb HG.out.2.2.1).2 (List.mem_cons_of_mem _ (List.mem_cons_of_mem _ e))) h5d.out
                  have hs6 := f6.same (fun e => HC5.out.sn.2 (List.mem_cons_of_mem _ (List.mem_cons_of_mem _ e))) HC5.out.s
                  have hd6 := f6.same (fun e => HC5.out.dn.2 (List.mem_cons_of_mem _ (List.mem_cons_of_mem _ e))) HC5.out.d
                  have HK6 := hidI hk6
                  have HS6 := hidI hs6
                  have HD6 := hidI hd6
                  have g1o : g1 ∉ x3.own := fun e => (HLO.out g1 HG.out.1).2 (List.mem_cons_of_mem _ (List.mem_cons_of_mem _ e))
                  have g2o : g2 ∉ x3.own := fun e => (HLO.out g2 HG.out.2.1).2 (List.mem_cons_of_mem _ (List.mem_cons_of_mem _ e))
                  have M1 := hidI (HL1.out.kept f6 g1o)
                  have M2 := hidI (HL2.out.kept f6 g2o)
                  have HOW : Hid (∀ g ∈ [g1, g2], w0.heap.size ≤ g ∧ g ∉ m.own ∧ g ∉ rg :: x4.pp :: x4.own) := hidI (fun g hg => by
                    have hb : wd.heap.size ≤ g ∧ g < w5.drew.heap.size := by
                      have hh := HG.out
                      rcases List.mem_cons.1 hg with e | e
                      · rw [e]
                        exact ⟨hh.1, by omega⟩
                      · rw [List.mem_singleton.1 e]
                        exact ⟨hh.2.1, by omega⟩
                    have hs := HC3.out.1.pd.fr.size
                    refine ⟨by omega, (HLO.out g hb.1).1, fun e => ?_⟩
                    rcases how g e with h1 | h1
                    · exact (HLO.out g hb.1).2 h1
                    · omega)
                  have HLT : Hid (wd.heap.size ≤ w6.heap.size) := hidI (by have := HG.out; have := f6.size; omega)
                  have HSD : Hid (sb < wd.heap.size ∧ db < wd.heap.size) := hidI ⟨(Array.getElem?_eq_some_iff.1 HC3.out.1.s).1, (Array.getElem?_eq_some_iff.1 HC3.out.1.d).1⟩
                  have b0 : w6.cell? ⟨kb, 0, none⟩ = some (.int .i64 (q : Int)) := cell_of_row w6 kb 0 _ _ _ hk6
                  have b1 : w6.cell? ⟨kb, 1, none⟩ = some (.int .i64 (o : Int)) := cell_of_row w6 kb 1 _ _ _ hk6
                  have b2 : w6.cell? ⟨kb, 2, none⟩ = some (.slice (some ⟨g1, 0, none⟩) 0 k1) := cell_of_row w6 kb 2 _ _ _ hk6
                  have b3 : w6.cell? ⟨kb, 3, none⟩ = some (.slice (some ⟨g2, 0, none⟩) n k2) := cell_of_row w6 kb 3 _ _ _ hk6
                  have s0 : w6.cell? ⟨sb, 0, none⟩ = some (.int .i64 (q : Int)) := cell_of_row w6 sb 0 _ _ _ hs6
                  have s1 : w6.cell? ⟨sb, 1, none⟩ = some (.int .i64 (o : Int)) := cell_of_row w6 sb 1 _ _ _ hs6
                  have s2 : w6.cell? ⟨sb, 2, none⟩ = some (.slice none 0 0) := cell_of_row w6 sb 2 _ _ _ hs6
                  have s3 : w6.cell? ⟨sb, 3, none⟩ = some (.slice a2 n c2) := cell_of_row w6 sb 3 _ _ _ hs6
                  have KP := pkept w6 (q : Int) (o : Int) g1 k1 g2 k2 a2 n c2 l2 HN.out M1.out M2.out (HB2.out.kept X6.out.fr (by simp)) HZ2.out (by omega)
                  clear KK CH P6 P f6 how hpp hiv hk6 hs6 hd6 g1o g2o h5d HL1 HL2 HC5 r2
                  go_upto_region 29 with (go_at_call 79; refine KP.mono ?_; rintro e w7 ⟨rfl, f7⟩)
                  clear KP b0 b1 b2 b3 s0 s1 s2 s3
                  have hk7 := f7.same (by simp) HK6.out
                  have b0 : w7.cell? ⟨kb, 0, none⟩ = some (.int .i64 (q : Int)) := cell_of_row w7 kb 0 _ _ _ hk7
                  have b1 : w7.cell? ⟨kb, 1, none⟩ = some (.int .i64 (o : Int)) := cell_of_row w7 kb 1 _ _ _ hk7
                  have b2 : w7.cell? ⟨kb, 2, none⟩ = some (.slice (some ⟨g1, 0, none⟩) 0 k1) := cell_of_row w7 kb 2 _ _ _ hk7
                  have b3 : w7.cell? ⟨kb, 3, none⟩ = some (.slice (some ⟨g2, 0, none⟩) n k2) := cell_of_row w7 kb 3 _ _ _ hk7
                  have OV := pover w7 (q : Int) (o : Int) g1 k1 0 g2 k2 n [] l2 (M1.out.kept f7 (by simp)) (M2.out.kept f7 (by simp)) rfl HN.out (by omega) (by omega)
                  have F7 := hidI f7
                  clear f7 hk7
                  go_upto_region 30 with (go_at_call 80; refine OV.mono ?_; rintro e w8 ⟨rfl, f8⟩)
                  have X8 := hidI ((X6.out.quiet F7.out).offL f8 HOW.out)
                  have off8 : ∀ k, k < wd.heap.size → k ∉ [g1, g2] := fun k hk e => by
                    have hh := HG.out
                    rcases List.mem_cons.1 e with e | e
                    · omega
                    · have := List.mem_singleton.1 e
                      omega
                  have HS8 := hidI (f8.same (off8 sb HSD.out.1) (F7.out.same (by simp) HS6.out))
                  have HD8 := hidI (f8.same (off8 db HSD.out.2) (F7.out.same (by simp) HD6.out))
                  clear OV b0 b1 b2 b3 f8 off8 HS6 HD6 HK6 M1 M2 HOW HLT HSD X6 F7 HG HLO
                  obtain ⟨r, hr⟩ : ∃ r, m.R[q]? = some r := ⟨_, List.getElem?_eq_getElem (by rw [HI3.out.rl]; exact hqp)⟩
                  obtain ⟨tb, htb⟩ := X8.out.mo.at hr
                  obtain ⟨vn, hvn⟩ : ∃ vn, r.vs.length = vn := ⟨_, rfl⟩
                  obtain ⟨v, hv, _⟩ := (HI3.out.rc q r hr).last
                  obtain ⟨hn0, hat⟩ := row_last hvn hv
                  have hmax := (X8.out.mo.row r (List.mem_of_getElem? hr)).max
                  rw [hvn] at hmax
                  have KD : Hid (∀ w', Fr [] w8 w' → (w'.cell? ⟨mb, 0, none⟩ = some (.slice (some ⟨tb, 0, none⟩) pages m.c) ∧ w'.cell? ⟨tb, q, none⟩ = some (.slice (some ⟨r.g, 0, none⟩) vn r.c) ∧ w'.cell? ⟨r.g, (vn - 1) * 2, none⟩ = some (.slice (some ⟨v.g, 0, none⟩) 512 v.c) ∧ w'.cell? ⟨r.g, (vn - 1) * 2 + 1, none⟩ = some (.int .i64 v.n) ∧ w'.cell? ⟨db, 1, none⟩ = some (.int .i64 (q : Int))) ∧ w'.cell? ⟨sb, 1, none⟩ = some (.int .i64 (o : Int)) ∧ w'.cell? ⟨sb, 3, none⟩ = some (.slice a2 n c2) ∧ VrAt w0.heap.size w' v) := hidI (fun w' f => by
                    have Y := X8.out.quiet f
                    have Z := X8.out.rdm hr htb hvn f
                    have R := Y.mo.row r (List.mem_of_getElem? hr)
                    have c := R.cells hat
                    refine ⟨⟨?_, Z.t, c.1, c.2, cell_of_row w' db 1 _ _ _ (f.same (by simp) HD8.out)⟩, cell_of_row w' sb 1 _ _ _ (f.same (by simp) HS8.out), cell_of_row w' sb 3 _ _ _ (f.same (by simp) HS8.out), R.by' v (List.mem_of_getLast? hv)⟩
                    rw [← hmb, ← HI3.out.rl]
                    exact Z.m0)
                  have HRV := hidI (And.intro hr (And.intro hv (And.intro htb hvn)))
                  obtain ⟨⟨z0, z1, z2, z3, z4⟩, _⟩ := KD.out w8 (Fr.refl _ _)
                  obtain ⟨⟨y0, y1, y2, y3, y4⟩, _⟩ := KD.out (w8.alloc (.cells #[.slice none 0 0, .int .i64 0] 39)) ((Fr.refl [] w8).alloc _)
                  have e1 : IntKind.i64.wrap ((vn : Int) - 1) = ((vn - 1 : Nat) : Int) := by
                    rw [wrapI _ (by omega) (by omega)]
                    omega
                  have e2 : ((vn - 1 : Nat) : Int) < (vn : Int) := by omega
                  have e3 : (0 : Int) ≤ ((vn - 1 : Nat) : Int) := by omega
                  clear hat hn0 hv hr htb hvn
                  go_upto_region 31 with fail
                  go_cut [19] from 194 to 213 (fun s19 wx => ∃ lb, s19 = .pointer (some ⟨lb, 0, none⟩) ∧ Hid (wx.heap[lb]? = some (.cells #[.slice (some ⟨v.g, 0, none⟩) 512 v.c, .int .i64 v.n] 39) ∧ Fr [] w8 wx ∧ w8.heap.size ≤ lb))
                  case first =>
                    clear z0 z1 z2 z3 z4 y0 y1 y2 y3 y4
                    go_region_held3 (fun w' => w'.cell? ⟨mb, 0, none⟩ = some (.slice (some ⟨tb, 0, none⟩) pages m.c) ∧ w'.cell? ⟨tb, q, none⟩ = some (.slice (some ⟨r.g, 0, none⟩) vn r.c) ∧ w'.cell? ⟨r.g, (vn - 1) * 2, none⟩ = some (.slice (some ⟨v.g, 0, none⟩) 512 v.c) ∧ w'.cell? ⟨r.g, (vn - 1) * 2 + 1, none⟩ = some (.int .i64 v.n) ∧ w'.cell? ⟨db, 1, none⟩ = some (.int .i64 (q : Int))) (first | exact (KD.out _ (Fr.refl [] w8).drew).1 | exact (KD.out _ ((Fr.refl [] w8).drew.alloc _)).1 | exact (KD.out _ (Fr.refl [] w8)).1) (fail)
                    go_wp2_with fail
                    go_meet
                    exact ⟨_, rfl, hidI ⟨heap_alloc_new _ _, (Fr.refl [] w8).drew.alloc _, Nat.le_refl _⟩⟩
                  case rest =>
                    obtain ⟨lb, rfl, HLB⟩ := hcut
                    generalize wc = w9 at *
                    clear z0 z1 z2 z3 z4 y0 y1 y2 y3 y4 e1 e2 e3
                    obtain ⟨_, _, _, V9⟩ := KD.out w9 HLB.out.2.1
                    have HVL := hidI V9.l
                    have c0 : w9.cell? ⟨lb, 0, none⟩ = some (.slice (some ⟨v.g, 0, none⟩) 512 v.c) := cell_of_row w9 lb 0 _ _ _ HLB.out.1
                    have CB9 := copyBytes_any w9 (some ⟨v.g, 0, none⟩) 512 v.c v.l V9.l V9.b.bytes (by omega) (fun e => nomatch e)
                    clear V9
                    go_upto_region 33 with (go_at_call 42; refine CB9.mono ?_; rintro e w10 ⟨val, rfl, OW⟩; obtain ⟨gb, cb, rfl, RB, hgb⟩ := own_row OW HVL.out (by omega))
                    have F10 := hidI OW.2
                    have HRB := hidI RB
                    have HGB := hidI hgb
                    have qc : ¬ cb = o := by
                      have h1 := RB.cap
                      have h2 := HO.out
                      have h3 := HVL.out
                      omega
                    clear c0 CB9 OW RB hgb
                    obtain ⟨_, s1, s3, _⟩ := KD.out w10 (HLB.out.2.1.trans F10.out)
                    have o0 : (0 : Int) ≤ (o : Int) := by omega
                    have o5 : (o : Int) ≤ 512 := by have := HO.out; omega
                    have BW := HB2.out.kept ((X8.out.quiet (HLB.out.2.1.trans (F10.out.trans (Fr.refl [] w10).drew))).fr) (by simp)
                    go_cut [] from 217 to 223 (fun wx => Hid (RowB wx gb cb (over v.l o l2) ∧ Fr [gb] w10 wx))
                    case first =>
                      go_region_law ((refine step_copyB (by rfl) _ _ (by rfl) gb o _ (512 - o) _ a2 n _ cb v.l l2 rfl rfl (HRB.out.kept (Fr.refl [] w10).drew (by simp)) (by rw [HN.out]; have := HO.out; exact (Nat.min_eq_left (by omega)).symm) (fun _ => rfl) BW (by rw [HN.out, HVL.out]; have := HO.out; omega) ?_; intro w11 r11 f11; have R11 := hidI (And.intro r11 f11); clear r11 f11))
                      all_goals
                        go_wp2_with fail
                        go_meet
                        exact hidI ⟨R11.out.1, ((Fr.refl [gb] w10).drew).trans R11.out.2⟩
                    case rest =>
                      generalize wc = w11 at *
                      clear s1 s3 o0 o5 BW qc
                      have FX : Hid (Fr [] w8 w11) := hidI ((HLB.out.2.1.trans F10.out).then hcut.out.2 (fun i hi hm => by
                        have h1 := List.mem_singleton.1 hm
                        have h2 := HGB.out
                        have h3 := HLB.out.2.1.size
                        omega))
                      have X11 := hidI (X8.out.quiet FX.out)
                      have HLB2 : Hid (w11.heap[lb]? = some (.cells #[.slice (some ⟨v.g, 0, none⟩) 512 v.c, .int .i64 v.n] 39)) := hidI (hcut.out.2.same (fun e => by
                        obtain ⟨tl, h6, _⟩ := HRB.out
                        have h7 := F10.out.same (by simp) HLB.out.1
                        rw [List.mem_singleton.1 e, h6] at h7
                        simp at h7) (F10.out.same (by simp) HLB.out.1))
                      have HLG : Hid (w8.heap.size ≤ lb) := hidI HLB.out.2.2
                      have HGO : Hid (w0.heap.size ≤ gb ∧ w8.heap.size ≤ gb) := hidI (by
                        have h1 := HGB.out
                        have h2 := HLB.out.2.1.size
                        have h3 := X8.out.fr.size
                        omega)
                      obtain ⟨mx, hmx⟩ : ∃ mx : Int, mx = max lsn v.n := ⟨_, rfl⟩
                      obtain ⟨v', hv'⟩ : ∃ v' : Vr, v' = ⟨gb, cb, over v.l o l2, mx⟩ := ⟨_, rfl⟩
                      have HV' : Hid (∀ w', Fr [] w11 w' → VrAt w0.heap.size w' v') := hidI (fun w' f => by
                        rw [hv']
                        exact ⟨hcut.out.1.kept f (by simp), by show (over v.l o l2).length = 512; rw [over_length _ _ _ (by rw [HN.out, HVL.out]; have := HO.out; omega)]; exact HVL.out, HGO.out.1⟩)
                      have HMX := hidI (And.intro hmx hv')
                      clear HRB HGB HLB hcut hmx
                      have KS : Hid (∀ w', Fr [] w11 w' → w'.cell? ⟨mb, 0, none⟩ = some (.slice (some ⟨tb, 0, none⟩) pages m.c) ∧ w'.cell? ⟨db, 1, none⟩ = some (.int .i64 (q : Int)) ∧ w'.cell? ⟨lb, 1, none⟩ = some (.int .i64 v.n)) := hidI (fun w' f => by
                        obtain ⟨⟨y0, y1, y2, y3, y4⟩, _⟩ := KD.out w' (FX.out.trans f)
                        exact ⟨y0, y4, cell_of_row w' lb 1 _ _ _ (f.same (by simp) HLB2.out)⟩)
                      have KT : Hid (∀ w', Fr [] w11 w' → w'.cell? ⟨tb, q, none⟩ = some (.slice (some ⟨r.g, 0, none⟩) vn r.c)) := hidI (fun w' f => (KD.out w' (FX.out.trans f)).1.2.1)
                      have FA : Hid (∀ O, Fr [] w11 (w11.alloc O).drew) := hidI (fun O => ((Fr.refl [] w11).alloc O).drew)
                      have HNEW : Hid (∀ O, (w11.alloc O).drew.heap[w11.heap.size]? = some O) := hidI (fun O => heap_alloc_new w11 O)
                      have HVM : Hid (vn + 1 ≤ 1000000) := hidI (by have h1 := HVB.out r (List.mem_of_getElem? HRV.out.1); have h2 := HRV.out.2.2.2; omega)
                      obtain ⟨wA, hwA⟩ : ∃ wA, wA = (w11.alloc (.cells #[.slice (some ⟨gb, 0, none⟩) 512 cb, .int .i64 mx] 39)).drew := ⟨_, rfl⟩
                      have HWA := hidI hwA
                      have PN : Hid (∀ (w12 : World) (g8 c8 : Nat), Fr [r.g] wA w12 → RwAt w0.heap.size w12 ⟨g8, c8, r.vs ++ [v']⟩ → (g8 = r.g ∨ wA.heap.size ≤ g8) → (w12.cell? ⟨mb, 0, none⟩ = some (.slice (some ⟨tb, 0, none⟩) pages m.c) ∧ w12.cell? ⟨db, 1, none⟩ = some (.int .i64 (q : Int)) ∧ w12.cell? ⟨lb, 1, none⟩ = some (.int .i64 v.n)) ∧ w12.cell? ⟨tb, q, none⟩ = some (.slice (some ⟨r.g, 0, none⟩) vn r.c) ∧ w12.frozen? ⟨tb, q, none⟩ = false ∧ ((w12.setCell ⟨tb, q, none⟩ (.slice (some ⟨g8, 0, none⟩) (vn + 1) c8)).cell? ⟨mb, 0, none⟩ = some (.slice (some ⟨tb, 0, none⟩) pages m.c) ∧ (w12.setCell ⟨tb, q, none⟩ (.slice (some ⟨g8, 0, none⟩) (vn + 1) c8)).cell? ⟨db, 1, none⟩ = some (.int .i64 (q : Int)) ∧ (w12.setCell ⟨tb, q, none⟩ (.slice (some ⟨g8, 0, none⟩) (vn + 1) c8)).cell? ⟨lb, 1, none⟩ = some (.int .i64 v.n)) ∧ PdJ w0 (w12.setCell ⟨tb, q, none⟩ (.slice (some ⟨g8, 0, none⟩) (vn + 1) c8)) rg mb pages most (J + 1)) := hidI (fun w12 g8 c8 f12 R12 hg12 => by
                        have hFA := FA.out (.cells #[.slice (some ⟨gb, 0, none⟩) 512 cb, .int .i64 mx] 39)
                        rw [← HWA.out] at hFA
                        have hrg : r.g < w8.heap.size := ((X8.out.mo.row r (List.mem_of_getElem? HRV.out.1)).lt r.g List.mem_cons_self).2
                        obtain ⟨⟨a1, a2, a3⟩, a4, a5, ⟨a6, a7, a8⟩, a9⟩ := newrow (r' := ⟨g8, c8, r.vs ++ [v']⟩) (v' := v') (X11.out.quiet hFA) HRV.out.1 HRV.out.2.2.1 HRV.out.2.2.2 f12 R12 hg12 rfl (fun e => by
                          have h1 := X8.out.lt _ e
                          have h2 := HGO.out.2
                          rw [HMX.out.2] at h1
                          have h3 : gb < w8.heap.size := h1
                          omega) ((FX.out.trans hFA).same (by simp) HD8.out) (hFA.same (by simp) HLB2.out) (fun e => by
                          have h2 := HLG.out
                          omega)
                        rw [HI3.out.rl, hmb] at a1 a6
                        refine ⟨⟨a1, cell_of_row w12 db 1 _ _ _ a2, cell_of_row w12 lb 1 _ _ _ a3⟩, a4, a5, ⟨a6, cell_of_row _ db 1 _ _ _ a7, cell_of_row _ lb 1 _ _ _ a8⟩, x4, { m with R := m.R.set q ⟨g8, c8, r.vs ++ [v']⟩ }, hmb, a9, ?_⟩
                        refine HIV.out r v HRV.out.1 HRV.out.2.1 ⟨g8, c8, r.vs ++ [v']⟩ v' rfl (by rw [HMX.out.2]) (by rw [HMX.out.2]; exact HMX.out.1) ?_
                        have h1 := HVB.out r (List.mem_of_getElem? HRV.out.1)
                        show ((r.vs ++ [v']).length : Int) ≤ J + 1 + 1
                        rw [List.length_append]
                        simp
                        omega)
                      have t0 := KT.out w11 (Fr.refl _ _)
                      have t1 := KT.out (w11.alloc (.cells #[.slice (some ⟨gb, 0, none⟩) 512 cb, .int .i64 mx] 39)) ((Fr.refl [] w11).alloc _)
                      clear hwA
                      go_upto_region 34 with fail
                      refine wp_region_held_drew (S := fun w' => w'.cell? ⟨mb, 0, none⟩ = some (.slice (some ⟨tb, 0, none⟩) pages m.c) ∧ w'.cell? ⟨db, 1, none⟩ = some (.int .i64 (q : Int)) ∧ w'.cell? ⟨lb, 1, none⟩ = some (.int .i64 v.n)) (by kernel_rfl) (KS.out _ (Fr.refl [] w11).drew) (fun hHeld => ?_)
                      refine wpAnyH_take (i := 0) (v := ?_) rfl (by kernel_rfl) (by kernel_rfl) (by kernel_rfl) (fun _ _ _ h => h) (Or.inl ⟨by kernel_rfl, ?_⟩) hHeld ?_
                      rotate_left
                      · intro w' hSw
                        go_simp
                        try with_reducible rfl
                      try simp only [Act.put, List.getElem_toArray, List.getElem_cons_zero, List.setIfInBounds_toArray, List.set_cons_zero, List.set_cons_succ]
                      refine wpAnyH_take (i := 1) (v := ?_) rfl (by kernel_rfl) (by kernel_rfl) (by kernel_rfl) (fun _ _ _ h => h) (Or.inl ⟨by kernel_rfl, ?_⟩) hHeld ?_
                      rotate_left
                      · intro w' hSw
                        go_simp
                        try with_reducible rfl
                      try simp only [Act.put, List.getElem_toArray, List.getElem_cons_succ, List.getElem_cons_zero, List.setIfInBounds_toArray, List.set_cons_zero, List.set_cons_succ]
                      refine wpAnyH_take (i := 2) (v := ?_) rfl (by kernel_rfl) (by kernel_rfl) (by kernel_rfl) (fun _ _ _ h => h) (Or.inl ⟨by kernel_rfl, ?_⟩) hHeld ?_
                      rotate_left
                      · intro w' hSw
                        go_simp
                        try with_reducible rfl
                      try simp only [Act.put, List.getElem_toArray, List.getElem_cons_succ, List.getElem_cons_zero, List.setIfInBounds_toArray, List.set_cons_zero, List.set_cons_succ]
                      refine wpAnyH_take (i := 3) (v := ?_) rfl (by kernel_rfl) (by kernel_rfl) (by kernel_rfl) (fun _ _ _ h => h) (Or.inl ⟨by kernel_rfl, ?_⟩) hHeld ?_
                      rotate_left
                      · intro w' hSw
                        obtain ⟨y0, y1, y2⟩ := hSw
                        go_simp
                        try with_reducible rfl
                      try simp only [Act.put, List.getElem_toArray, List.getElem_cons_succ, List.getElem_cons_zero, List.setIfInBounds_toArray, List.set_cons_zero, List.set_cons_succ]
                      refine wpAnyH_take (i := 4) (v := ?_) rfl (by kernel_rfl) (by kernel_rfl) (by kernel_rfl) (fun _ _ _ h => h) (Or.inl ⟨by kernel_rfl, ?_⟩) hHeld ?_
                      rotate_left
                      · intro w' hSw
                        go_simp
                        try with_reducible rfl
                      try simp only [Act.put, List.getElem_toArray, List.getElem_cons_succ, List.getElem_cons_zero, List.setIfInBounds_toArray, List.set_cons_zero, List.set_cons_succ]
                      refine wpAnyH_take (i := 5) (v := ?_) rfl (by kernel_rfl) (by kernel_rfl) (by kernel_rfl) (fun _ _ _ h => h) (Or.inl ⟨by kernel_rfl, ?_⟩) hHeld ?_
                      rotate_left
                      · intro w' hSw
                        obtain ⟨y0, y1, y2⟩ := hSw
                        go_simp
                        try with_reducible rfl
                      try simp only [Act.put, List.getElem_toArray, List.getElem_cons_succ, List.getElem_cons_zero, List.setIfInBounds_toArray, List.set_cons_zero, List.set_cons_succ]
                      refine wpAnyH_take (i := 6) (v := ?_) rfl (by kernel_rfl) (by kernel_rfl) (by kernel_rfl) (fun _ _ _ h => h) (Or.inl ⟨by kernel_rfl, ?_⟩) hHeld ?_
                      rotate_left
                      · intro w' hSw
                        go_simp
                        try with_reducible rfl
                      try simp only [Act.put, List.getElem_toArray, List.getElem_cons_succ, List.getElem_cons_zero, List.setIfInBounds_toArray, List.set_cons_zero, List.set_cons_succ]
                      refine wpAnyH_take (i := 7) (v := ?_) rfl (by kernel_rfl) (by kernel_rfl) (by kernel_rfl) (fun _ _ _ h => h) (Or.inl ⟨by kernel_rfl, ?_⟩) hHeld ?_
                      rotate_left
                      · intro w' hSw
                        go_simp
                        try with_reducible rfl
                      try simp only [Act.put, List.getElem_toArray, List.getElem_cons_succ, List.getElem_cons_zero, List.setIfInBounds_toArray, List.set_cons_zero, List.set_cons_succ]
                      refine wpAnyH_take (i := 8) (v := ?_) rfl (by kernel_rfl) (by kernel_rfl) (by kernel_rfl) (fun _ _ _ h => h) (Or.inl ⟨by kernel_rfl, ?_⟩) hHeld ?_
                      rotate_left
                      · intro w' hSw
                        go_simp
                        try with_reducible rfl
                      try simp only [Act.put, List.getElem_toArray, List.getElem_cons_succ, List.getElem_cons_zero, List.setIfInBounds_toArray, List.set_cons_zero, List.set_cons_succ]
                      refine wpAnyH_take (i := 9) (v := ?_) rfl (by kernel_rfl) (by kernel_rfl) (by kernel_rfl) (fun _ _ _ h => h) (Or.inl ⟨by kernel_rfl, ?_⟩) hHeld ?_
                      rotate_left
                      · intro w' hSw
                        obtain ⟨y0, y1, y2⟩ := hSw
                        go_simp
                        try with_reducible rfl
                      try simp only [Act.put, List.getElem_toArray, List.getElem_cons_succ, List.getElem_cons_zero, List.setIfInBounds_toArray, List.set_cons_zero, List.set_cons_succ]
                      refine wpAnyH_take (i := 10) (v := ?_) rfl (by kernel_rfl) (by kernel_rfl) (by kernel_rfl) (fun _ _ _ h => h) (Or.inl ⟨by kernel_rfl, ?_⟩) hHeld ?_
                      rotate_left
                      · intro w' hSw
                        go_simp
                        try with_reducible rfl
                      try simp only [Act.put, List.getElem_toArray, List.getElem_cons_succ, List.getElem_cons_zero, List.setIfInBounds_toArray, List.set_cons_zero, List.set_cons_succ]
                      refine wpAnyH_take (i := 11) (v := ?_) rfl (by kernel_rfl) (by kernel_rfl) (by kernel_rfl) (fun _ _ _ h => h) (Or.inl ⟨by kernel_rfl, ?_⟩) hHeld ?_
                      rotate_left
                      · intro w' hSw
                        obtain ⟨y0, y1, y2⟩ := hSw
                        go_simp
                        try with_reducible rfl
                      try simp only [Act.put, List.getElem_toArray, List.getElem_cons_succ, List.getElem_cons_zero, List.setIfInBounds_toArray, List.set_cons_zero, List.set_cons_succ]
                      refine wpAnyH_take (i := 12) (v := ?_) rfl (by kernel_rfl) (by kernel_rfl) (by kernel_rfl) (fun _ _ _ h => h) (Or.inl ⟨by kernel_rfl, ?_⟩) hHeld ?_
                      rotate_left
                      · intro w' hSw
                        go_simp
                        try with_reducible rfl
                      try simp only [Act.put, List.getElem_toArray, List.getElem_cons_succ, List.getElem_cons_zero, List.setIfInBounds_toArray, List.set_cons_zero, List.set_cons_succ]
                      refine wpAnyH_take (i := 14) (v := ?_) rfl (by kernel_rfl) (by kernel_rfl) (by kernel_rfl) (fun _ _ _ h => h) (Or.inl ⟨by kernel_rfl, ?_⟩) hHeld ?_
                      rotate_left
                      · intro w' hSw
                        go_simp
                        try with_reducible rfl
                      try simp only [Act.put, List.getElem_toArray, List.getElem_cons_succ, List.getElem_cons_zero, List.setIfInBounds_toArray, List.set_cons_zero, List.set_cons_succ]
                      refine wpAnyH_take (i := 15) (v := ?_) rfl (by kernel_rfl) (by kernel_rfl) (by kernel_rfl) (fun _ _ _ h => h) (Or.inl ⟨by kernel_rfl, ?_⟩) hHeld ?_
                      rotate_left
                      · intro w' hSw
                        go_simp
                        try with_reducible rfl
                      try simp only [Act.put, List.getElem_toArray, List.getElem_cons_succ, List.getElem_cons_zero, List.setIfInBounds_toArray, List.set_cons_zero, List.set_cons_succ]
                      refine wpAnyH_take (i := 16) (v := ?_) rfl (by kernel_rfl) (by kernel_rfl) (by kernel_rfl) (fun _ _ _ h => h) (Or.inl ⟨by kernel_rfl, ?_⟩) hHeld ?_
                      rotate_left
                      · intro w' hSw
                        go_simp
                        try with_reducible rfl
                      try simp only [Act.put, List.getElem_toArray, List.getElem_cons_succ, List.getElem_cons_zero, List.setIfInBounds_toArray, List.set_cons_zero, List.set_cons_succ]
                      refine wpAnyH_take (i := 17) (v := ?_) rfl (by kernel_rfl) (by kernel_rfl) (by kernel_rfl) (fun _ _ _ h => h) (Or.inl ⟨by kernel_rfl, ?_⟩) hHeld ?_
                      rotate_left
                      · intro w' hSw
                        obtain ⟨y0, y1, y2⟩ := hSw
                        go_simp
                        try with_reducible rfl
                      try simp only [Act.put, List.getElem_toArray, List.getElem_cons_succ, List.getElem_cons_zero, List.setIfInBounds_toArray, List.set_cons_zero, List.set_cons_succ]
                      refine wpAnyH_take (i := 18) (v := .int .i64 mx) rfl (by kernel_rfl) (by kernel_rfl) (by kernel_rfl) (fun _ _ _ h => h) (Or.inl ⟨by kernel_rfl, ?_⟩) hHeld ?_
                      · intro w' hSw
                        rw [HMX.out.1]
                        by_cases hgt : v.n ≤ lsn
                        · rw [Int.max_eq_left hgt]
                          go_simp
                          try first | (intro hlt; omega) | omega
                        · have hgt2 : lsn < v.n := by omega
                          rw [Int.max_eq_right (by omega)]
                          go_simp
                          try first | (intro hlt; omega) | omega
                      try simp only [Act.put, List.getElem_toArray, List.getElem_cons_succ, List.getElem_cons_zero, List.setIfInBounds_toArray, List.set_cons_zero, List.set_cons_succ]
                      refine wpAnyH_take (i := 19) (v := ?_) rfl (by kernel_rfl) (by kernel_rfl) (by kernel_rfl) (fun _ _ _ h => h) (Or.inl ⟨by kernel_rfl, ?_⟩) hHeld ?_
                      rotate_left
                      · intro w' hSw
                        go_simp
                        try with_reducible rfl
                      try simp only [Act.put, List.getElem_toArray, List.getElem_cons_succ, List.getElem_cons_zero, List.setIfInBounds_toArray, List.set_cons_zero, List.set_cons_succ]
                      refine wpAnyH_ready (rs := [13, 20]) (by kernel_rfl) (by simp) ?_
                      refine AllReadyH.cons rfl (fun K hK => ?_) (AllReadyH.cons rfl (fun K hK => ?_) AllReadyH.nil)
                      · rw [if_pos (by kernel_rfl)]
                        go_wp2_with fail
                        refine hK.out _ _ (hHeld) (fun hHeld => ?_)
                        clear hK K
                        try simp only [Act.put, List.getElem_toArray, List.getElem_cons_succ, List.getElem_cons_zero, List.setIfInBounds_toArray, List.set_cons_zero, List.set_cons_succ]
                        refine wpAnyH_ready (rs := [20]) (by kernel_rfl) (by simp) ?_
                        refine AllReadyH.cons rfl (fun K hK => ?_) AllReadyH.nil
                        rw [if_pos (by kernel_rfl)]
                        go_wp2_with fail
                        refine hK.out _ _ (KS.out _ (FA.out _)) (fun hHeld => ?_)
                        clear hK K
                        try simp only [Act.put, List.getElem_toArray, List.getElem_cons_succ, List.getElem_cons_zero, List.setIfInBounds_toArray, List.set_cons_zero, List.set_cons_succ]
                        refine wpAnyH_ready (rs := [21]) (by kernel_rfl) (by simp) ?_
                        refine AllReadyH.cons rfl (fun K hK => ?_) AllReadyH.nil
                        refine step_appVr rfl (.tmp 237) (.tmp 244) rfl w0.heap.size r vn HRV.out.2.2.2.symm w11.heap.size v' rfl rfl ((X11.out.quiet (FA.out _)).mo.row r (List.mem_of_getElem? HRV.out.1)) (by rw [HMX.out.2]; exact HNEW.out _) (HV'.out _ (FA.out _)) (Nat.le_trans X11.out.fr.size (FA.out (.cells #[.slice (some ⟨gb, 0, none⟩) 512 cb, .int .i64 mx] 39)).size) (by have := HVM.out; omega) ?_
                        intro g8 c8 w12 R12 f12 hg12
                        rw [← HWA.out] at f12 hg12
                        have XN := hidI (PN.out w12 g8 c8 f12 R12 hg12)
                        refine hK.out _ _ XN.out.1 (fun hHeld => ?_)
                        clear hK K f12 hg12 R12
                        try simp only [Act.put, List.getElem_toArray, List.getElem_cons_succ, List.getElem_cons_zero, List.setIfInBounds_toArray, List.set_cons_zero, List.set_cons_succ]
                        refine wpAnyH_take (i := 22) (v := ?_) rfl (by kernel_rfl) (by kernel_rfl) (by kernel_rfl) (fun _ _ _ h => h) (Or.inl ⟨by kernel_rfl, ?_⟩) hHeld ?_
                        rotate_left
                        · intro w' hSw
                          obtain ⟨y0, y1, y2⟩ := hSw
                          go_simp
                          try with_reducible rfl
                        try simp only [Act.put, List.getElem_toArray, List.getElem_cons_succ, List.getElem_cons_zero, List.setIfInBounds_toArray, List.set_cons_zero, List.set_cons_succ]
                        have t8 := XN.out.2.1
                        have t9 := XN.out.2.2.1
                        refine wpAnyH_ready (rs := [23]) (by kernel_rfl) (by simp) ?_
                        refine AllReadyH.cons rfl (fun K hK => ?_) AllReadyH.nil
                        rw [if_pos (by kernel_rfl)]
                        go_wp2_with fail
                        refine hK.out _ _ (XN.out.2.2.2.1) (fun hHeld => ?_)
                        clear hK K
                        try simp only [Act.put, List.getElem_toArray, List.getElem_cons_succ, List.getElem_cons_zero, List.setIfInBounds_toArray, List.set_cons_zero, List.set_cons_succ]
                        refine wpAnyH_done (by kernel_rfl) ?_ _
                        go_wp2_with fail
                        go_ret
                        exact ⟨rfl, hidI XN.out.2.2.2.2⟩
                      · rw [if_pos (by kernel_rfl)]
                        go_wp2_with fail
                        refine hK.out _ _ (KS.out _ (FA.out _)) (fun hHeld => ?_)
                        clear hK K
                        try simp only [Act.put, List.getElem_toArray, List.getElem_cons_succ, List.getElem_cons_zero, List.setIfInBounds_toArray, List.set_cons_zero, List.set_cons_succ]
                        refine wpAnyH_ready (rs := [13]) (by kernel_rfl) (by simp) ?_
                        refine AllReadyH.cons rfl (fun K hK => ?_) AllReadyH.nil
                        rw [if_pos (by kernel_rfl)]
                        go_wp2_with fail
                        refine hK.out _ _ (hHeld) (fun hHeld => ?_)
                        clear hK K
                        try simp only [Act.put, List.getElem_toArray, List.getElem_cons_succ, List.getElem_cons_zero, List.setIfInBounds_toArray, List.set_cons_zero, List.set_cons_succ]
                        refine wpAnyH_ready (rs := [21]) (by kernel_rfl) (by simp) ?_
                        refine AllReadyH.cons rfl (fun K hK => ?_) AllReadyH.nil
                        refine step_appVr rfl (.tmp 237) (.tmp 244) rfl w0.heap.size r vn HRV.out.2.2.2.symm w11.heap.size v' rfl rfl ((X11.out.quiet (FA.out _)).mo.row r (List.mem_of_getElem? HRV.out.1)) (by rw [HMX.out.2]; exact HNEW.out _) (HV'.out _ (FA.out _)) (Nat.le_trans X11.out.fr.size (FA.out (.cells #[.slice (some ⟨gb, 0, none⟩) 512 cb, .int .i64 mx] 39)).size) (by have := HVM.out; omega) ?_
                        intro g8 c8 w12 R12 f12 hg12
                        rw [← HWA.out] at f12 hg12
                        have XN := hidI (PN.out w12 g8 c8 f12 R12 hg12)
                        refine hK.out _ _ XN.out.1 (fun hHeld => ?_)
                        clear hK K f12 hg12 R12
                        try simp only [Act.put, List.getElem_toArray, List.getElem_cons_succ, List.getElem_cons_zero, List.setIfInBounds_toArray, List.set_cons_zero, List.set_cons_succ]
                        refine wpAnyH_take (i := 22) (v := ?_) rfl (by kernel_rfl) (by kernel_rfl) (by kernel_rfl) (fun _ _ _ h => h) (Or.inl ⟨by kernel_rfl, ?_⟩) hHeld ?_
                        rotate_left
                        · intro w' hSw
                          obtain ⟨y0, y1, y2⟩ := hSw
                          go_simp
                          try with_reducible rfl
                        try simp only [Act.put, List.getElem_toArray, List.getElem_cons_succ, List.getElem_cons_zero, List.setIfInBounds_toArray, List.set_cons_zero, List.set_cons_succ]
                        have t8 := XN.out.2.1
                        have t9 := XN.out.2.2.1
                        refine wpAnyH_ready (rs := [23]) (by kernel_rfl) (by simp) ?_
                        refine AllReadyH.cons rfl (fun K hK => ?_) AllReadyH.nil
                        rw [if_pos (by kernel_rfl)]
                        go_wp2_with fail
                        refine hK.out _ _ (XN.out.2.2.2.1) (fun hHeld => ?_)
                        clear hK K
                        try simp only [Act.put, List.getElem_toArray, List.getElem_cons_succ, List.getElem_cons_zero, List.setIfInBounds_toArray, List.set_cons_zero, List.set_cons_succ]
                        refine wpAnyH_done (by kernel_rfl) ?_ _
                        go_wp2_with fail
                        go_ret
                        exact ⟨rfl, hidI XN.out.2.2.2.2⟩
end Go.Proofs.YtopaeomjndblkaaGreat

