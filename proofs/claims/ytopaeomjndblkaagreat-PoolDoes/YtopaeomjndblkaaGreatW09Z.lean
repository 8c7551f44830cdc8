/-
  stands: each page stands on the device as behind some of its changes, all of them safe.
-/
import Derived.Test.YtopaeomjndblkaaGreatW08Z
import Derived.BigQuiet
import Derived.Deep.RegionHeld3
namespace Go.Proofs.YtopaeomjndblkaaGreat
open Go.RowKit Go.Maps

/-- Is a version what the device has, and safe? -/
def okV (P : Nat) (l : List UInt8) (v : Vr) : Bool := decide (v.n ≤ (P : Int)) && (l == v.l)
theorem any_step {vs : List Vr} {k : Nat} {v : Vr} (hk : vs[k]? = some v) (f : Vr → Bool) : (vs.take (k + 1)).any f = ((vs.take k).any f || f v) := by
  rw [List.take_add_one, hk, List.any_append]
  simp
theorem RC.any {x : Po} {q : Nat} {vs : List Vr} (h : RC x q vs) : (vs.take vs.length).any (okV x.y.P (pgD x.start x.y q)) = true := by
  obtain ⟨v, hv, e, hn⟩ := h.dev
  rw [List.take_length, List.any_eq_true]
  exact ⟨v, hv, by unfold okV; rw [decide_eq_true hn, e]; simp⟩
theorem RwAt.max {B : Nat} {w : World} {r : Rw} (h : RwAt B w r) : r.vs.length ≤ 9223372036854775807 := by
  rcases h.own.2 with ⟨hv, _⟩ | ⟨g, cap, cur, hv, _, _, h1, h2, _⟩
  · cases hv
  · unfold maxLen at h2
    omega
/-- What is read of the model, whatever world is behind. -/
structure RdM (w : World) (m : Mo) (tb i : Nat) (r : Rw) (n : Nat) : Prop where
  m0 : w.cell? ⟨m.mb, 0, none⟩ = some (.slice (some ⟨tb, 0, none⟩) m.R.length m.c)
  t : w.cell? ⟨tb, i, none⟩ = some (.slice (some ⟨r.g, 0, none⟩) n r.c)
theorem Pd.rdm {w0 w : World} {rg : Nat} {x : Po} {m : Mo} (h : Pd w0 w rg x m) {i tb n : Nat} {r : Rw} (hi : m.R[i]? = some r) (ht : m.ad = some ⟨tb, 0, none⟩) (hn : r.vs.length = n) {w' : World} (f : Fr [] w w') : RdM w' m tb i r n := by
  have M := (h.quiet f).mo
  refine ⟨?_, ?_⟩
  · rw [← ht]
    exact M.c0
  · rw [← hn]
    exact (M.cell hi ht).1
set_option maxHeartbeats 4000000 in
set_option maxRecDepth 100000 in
theorem stands_any {w0 w : World} {rg : Nat} {x : Po} {m : Mo} {pages most : Nat} {J : Int} (h : Pd w0 w rg x m) (I : Iv pages most J x m.R m.hs) (hp : pages ≤ 1000) :
    Calls Tryz.prog 19 #[.pointer (some ⟨rg, 0, none⟩), .pointer (some ⟨m.mb, 0, none⟩)] w fun e w' => e = .returned (.bool true) ∧ Fr [] w w' := by
  have HH := hidI h
  have HI := hidI I
  obtain ⟨mb, hmb⟩ : ∃ mb, m.mb = mb := ⟨_, rfl⟩
  have rl := I.rl
  obtain ⟨ps, hps⟩ : ∃ ps : Int, (x.y.P : Int) + 1 = ps := ⟨_, rfl⟩
  clear h I
  rw [hmb]
  go_enter Tryz.func19, Tryz.ntmps19
  go_wp2_with fail
  go_loopw [5] (fun s5 wr => ∃ i : Nat, s5 = .int .i64 (i : Int) ∧ i ≤ pages ∧ Hid (Fr [] w wr)) (fun s5 _ => pages - (intOf s5).toNat)
  case atStart => exact ⟨0, rfl, by omega, hidI (Fr.refl [] w)⟩
  case round =>
    obtain ⟨i, rfl, hi, FR⟩ := hrel
    have X := hidI (HH.out.quiet FR.out)
    by_cases hlt : i < pages
    · have q1 : (i : Int) < (pages : Int) := by omega
      have q0 : (0 : Int) ≤ (i : Int) := by omega
      obtain ⟨r, hr⟩ : ∃ r, m.R[i]? = some r := ⟨_, List.getElem?_eq_getElem (by omega)⟩
      obtain ⟨tb, htb⟩ := X.out.mo.at hr
      obtain ⟨n, hn⟩ : ∃ n, r.vs.length = n := ⟨_, rfl⟩
      have KM : Hid (∀ w', Fr [] wr w' → w'.cell? ⟨mb, 0, none⟩ = some (.slice (some ⟨tb, 0, none⟩) pages m.c) ∧ w'.cell? ⟨tb, i, none⟩ = some (.slice (some ⟨r.g, 0, none⟩) n r.c) ∧ w'.cell? ⟨rg, 1, none⟩ = some (.pointer (some ⟨x.y.p, 0, none⟩)) ∧ (∀ k v, r.vs[k]? = some v → w'.cell? ⟨r.g, k * 2, none⟩ = some (.slice (some ⟨v.g, 0, none⟩) 512 v.c) ∧ w'.cell? ⟨r.g, k * 2 + 1, none⟩ = some (.int .i64 v.n) ∧ RowB w' v.g v.c v.l ∧ v.l.length = 512) ∧ Calls Tryz.prog 85 #[.pointer (some ⟨x.y.p, 0, none⟩)] w' fun e w'' => e = .returned (.int .i64 ps) ∧ w'' = w') := hidI (fun w' f => by
        have Y := X.out.quiet f
        have Z := X.out.rdm hr htb hn f
        have R := Y.mo.row r (List.mem_of_getElem? hr)
        refine ⟨?_, Z.t, Y.l, fun k v hk => ?_, by rw [← hps]; exact lo_safe Y.rig.po.lo⟩
        · rw [← hmb, ← rl]
          exact Z.m0
        · have c := R.cells hk
          have b := R.by' v (List.mem_of_getElem? hk)
          exact ⟨c.1, c.2, b.b, b.l⟩)
      have hc := HI.out.rc i r hr
      have HANY := hidI hc.any
      have m0 := (KM.out wr (Fr.refl _ _)).1
      have r0 : wr.cell? ⟨rg, 0, none⟩ = some (.pointer (some ⟨x.y.d, 0, none⟩)) := X.out.d
      have hdv := X.out.rig.po.lo.dev
      have har := X.out.rig.po.area
      have hst := HI.out.st
      have hpg := HI.out.pg
      have DX := dread hdv (12 + (i : Int)) (by omega) (by omega)
      have e12 : IntKind.i64.wrap (12 + (i : Int)) = 12 + (i : Int) := wrapI _ (by omega) (by omega)
      have hpd : Dv.latest x.y.S x.y.O (12 + (i : Int)) = pgD x.start x.y i := by
        unfold pgD
        rw [hst]
        rfl
      rw [hpd] at DX
      obtain ⟨pl, hpl⟩ : ∃ pl, pgD x.start x.y i = pl := ⟨_, rfl⟩
      rw [hpl] at DX HANY
      have hl512 : pl.length = 512 := by
        rw [← hpl, ← hpd]
        exact latest_len hdv _
      have HN := hidI hn
      have hmax := (X.out.mo.row r (List.mem_of_getElem? hr)).max
      rw [hn] at hmax
      clear hdv har hst hpg hpd hpl hc htb hn
      go_upto_region 7 with (go_at_call 83; refine DX.mono ?_; rintro e w5 ⟨g5, rfl, B5, hg5, f5⟩)
      have F5 := hidI f5
      have HB5 := hidI B5
      clear m0 r0 DX B5 f5 hg5 e12
      go_wp2_with fail
      go_loopw [8, 9] (fun s8 s9 wr => ∃ k : Nat, s9 = .int .i64 (k : Int) ∧ k ≤ n ∧ s8 = .bool ((r.vs.take k).any (okV x.y.P pl)) ∧ Hid (Fr [] w5 wr)) (fun _ s9 _ => n - (intOf s9).toNat)
      case atStart => exact ⟨0, rfl, by omega, rfl, hidI (Fr.refl [] w5)⟩
      case round =>
        obtain ⟨k, rfl, hk, rfl, FQ⟩ := hrel
        obtain ⟨m0, t0, r1, _, SF⟩ := KM.out wr (F5.out.trans FQ.out)
        by_cases hkn : k < n
        · have k1 : (k : Int) < (n : Int) := by omega
          have k0 : (0 : Int) ≤ (k : Int) := by omega
          have e1 : IntKind.i64.wrap ((k : Int) + 1) = (k : Int) + 1 := wrapI _ (by omega) (by omega)
          obtain ⟨v, hv⟩ : ∃ v, r.vs[k]? = some v := ⟨_, List.getElem?_eq_getElem (by have := HN.out; omega)⟩
          obtain ⟨fb, hfb⟩ : ∃ fb, (r.vs.take k).any (okV x.y.P pl) = fb := ⟨_, rfl⟩
          have hst := any_step hv (okV x.y.P pl)
          rw [hfb] at hst ⊢
          have KV : Hid (∀ w', Fr [] wr w' → w'.cell? ⟨mb, 0, none⟩ = some (.slice (some ⟨tb, 0, none⟩) pages m.c) ∧ w'.cell? ⟨tb, i, none⟩ = some (.slice (some ⟨r.g, 0, none⟩) n r.c) ∧ w'.cell? ⟨rg, 1, none⟩ = some (.pointer (some ⟨x.y.p, 0, none⟩)) ∧ w'.cell? ⟨r.g, k * 2, none⟩ = some (.slice (some ⟨v.g, 0, none⟩) 512 v.c) ∧ w'.cell? ⟨r.g, k * 2 + 1, none⟩ = some (.int .i64 v.n)) := hidI (fun w' f => by
            obtain ⟨y0, y1, y2, y3, _⟩ := KM.out w' ((F5.out.trans FQ.out).trans f)
            obtain ⟨z0, z1, _⟩ := y3 k v hv
            exact ⟨y0, y1, y2, z0, z1⟩)
          clear hfb
          cases fb with
          | true =>
            have hst' : (r.vs.take (k + 1)).any (okV x.y.P pl) = true := by rw [hst]; rfl
            clear hst SF r1
            go_upto_region 11 with fail
            go_quiet (fail)
            go_wp2_with fail
            exact ⟨⟨k + 1, by go_num, by omega, by rw [hst'], hidI (FQ.out.drewN nq)⟩, by simp [intOf]; omega⟩
          | false =>
            obtain ⟨m0, t0, r1, z0, z1⟩ := KV.out wr (Fr.refl _ _)
            obtain ⟨_, _, _, y3, SD⟩ := KM.out wr.drew ((F5.out.trans FQ.out).trans (Fr.refl [] wr).drew)
            obtain ⟨_, _, bv, bl⟩ := y3 k v hv
            have SX := same_any wr.drew (some ⟨g5, 0, none⟩) (some ⟨v.g, 0, none⟩) pl v.l 512 512 v.c (((HB5.out.kept FQ.out (by simp)).kept (Fr.refl [] wr).drew (by simp)).bytes) bv.bytes hl512 bl (by omega)
            clear y3 bv bl SF
            by_cases hP : v.n ≤ (x.y.P : Int)
            · have qs : v.n < ps := by omega
              have hst' : (r.vs.take (k + 1)).any (okV x.y.P pl) = (pl == v.l) := by rw [hst]; unfold okV; rw [decide_eq_true hP]; simp
              clear hst hP
              go_upto_region 11 with fail
              go_region_held3 (fun w' => w'.cell? ⟨mb, 0, none⟩ = some (.slice (some ⟨tb, 0, none⟩) pages m.c) ∧ w'.cell? ⟨tb, i, none⟩ = some (.slice (some ⟨r.g, 0, none⟩) n r.c) ∧ w'.cell? ⟨rg, 1, none⟩ = some (.pointer (some ⟨x.y.p, 0, none⟩)) ∧ w'.cell? ⟨r.g, k * 2, none⟩ = some (.slice (some ⟨v.g, 0, none⟩) 512 v.c) ∧ w'.cell? ⟨r.g, k * 2 + 1, none⟩ = some (.int .i64 v.n)) (first | exact KV.out _ (Fr.refl [] wr).drew | exact KV.out _ (Fr.refl [] wr) | exact KK) ((first
                | (go_at_call 85; refine SD.mono ?_; rintro e wz ⟨rfl, hz⟩; rw [hz]; clear hz)
                | (go_at_call 29; refine SX.mono ?_; rintro e4 w4 ⟨rfl, f4⟩; have F4 := hidI ((Fr.refl [] wr).drew.trans f4); have KK := KV.out _ F4.out)))
              go_wp2_with fail
              exact ⟨⟨k + 1, by go_num, by omega, by rw [hst'], hidI (FQ.out.trans F4.out)⟩, by simp [intOf]; omega⟩
            · have qs : decide (v.n < ps) = false := decide_eq_false (by omega)
              have hst' : (r.vs.take (k + 1)).any (okV x.y.P pl) = false := by rw [hst]; unfold okV; rw [decide_eq_false hP]; rfl
              have SZ : Hid (∀ w', Fr [] wr w' → Calls Tryz.prog 85 #[.pointer (some ⟨x.y.p, 0, none⟩)] w' fun e w'' => e = .returned (.int .i64 ps) ∧ w'' = w') := hidI (fun w' f => (KM.out w' ((F5.out.trans FQ.out).trans f)).2.2.2.2)
              clear hst hP SX SD
              go_upto_region 11 with fail
              go_quiet (first
                | (go_at_call 85; exact Calls.quiet_of_same (SZ.out _ (by first | exact (Fr.refl [] wr).drewN _ | exact (Fr.refl [] wr).drew | exact Fr.refl [] wr))))
              go_wp2_with fail
              exact ⟨⟨k + 1, by go_num, by omega, by rw [hst'], hidI (FQ.out.drewN nq)⟩, by simp [intOf]; omega⟩
        · have k1 : ¬ (k : Int) < (n : Int) := by omega
          obtain rfl : n = k := by omega
          have he : (r.vs.take n).any (okV x.y.P pl) = true := by rw [← HN.out]; exact HANY.out
          rw [he]
          clear SF r1
          go_wp2_with fail
          exact ⟨⟨i + 1, by go_num, by omega, hidI (FR.out.trans (F5.out.trans FQ.out))⟩, by simp [intOf]; omega⟩
    · have q1 : ¬ (i : Int) < (pages : Int) := by omega
      have m0 : wr.cell? ⟨mb, 0, none⟩ = some (.slice m.ad pages m.c) := by
        rw [← hmb, ← rl]
        exact X.out.mo.c0
      go_wp2_with fail
      go_ret
      exact ⟨rfl, FR.out⟩
end Go.Proofs.YtopaeomjndblkaaGreat

