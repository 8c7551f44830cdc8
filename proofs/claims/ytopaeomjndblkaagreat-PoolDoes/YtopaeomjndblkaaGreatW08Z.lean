/-
  A pool's Change where it may not be; OverSpan.
-/
import Derived.Test.YtopaeomjndblkaaGreatW05Z
import Derived.Test.YtopaeomjndblkaaGreatW07Z
namespace Go.Proofs.YtopaeomjndblkaaGreat
open Go.RowKit Go.Maps

/-- The rig of awake while pages are changed. -/
structure Aw (w wr : World) (rg : Nat) (x : Po) (i : Nat) : Prop where
  at' : RigAt wr rg x
  fr : Fr [] w wr
  new : ∀ k ∈ rg :: x.pp :: x.own, w.heap.size ≤ k
  pages : x.pages = 20
  most : x.most = 8
  count : x.y.count = 12
  T : x.y.T = 1
  E : x.y.E ≤ 1067 * i
  hd : ∀ f ∈ x.fs, f.hd = 0
  few : i < 8 → x.fs.length = i ∧ ∀ q ∈ (ids x.fs).map (·.1), q < i
  all : 8 ≤ i → x.fs.length = 8
  val : ∀ q, q < i → q < 20 → ∃ l, Val x q l ∧ l[500]? = some (UInt8.ofNat (q + 1))
theorem aw_new {w wr w' : World} {x x' : Po} {rg : Nat} (h : ∀ k ∈ rg :: x.pp :: x.own, w.heap.size ≤ k) (f : Fr [] w wr) (st : Step wr w' x x') (hpp : x'.pp = x.pp) : (∀ k ∈ rg :: x'.pp :: x'.own, w.heap.size ≤ k) ∧ Fr [] w w' := by
  refine ⟨fun k hk => ?_, f.then st.fr (fun i hi hm => ?_)⟩
  · rw [hpp] at hk
    simp only [List.mem_cons] at hk
    rcases hk with hk | hk | hk
    · exact h k (by simp [hk])
    · exact h k (by simp [hk])
    · rcases st.ow k hk with h1 | h1
      · exact h k (by simp [h1])
      · exact Nat.le_trans f.size h1
  · have := h i (by simp [hm])
    omega
theorem aw_few {x x' : Po} {i : Nat} {f : Fm} (hf : Fnd x x' i f) (hm : x.most = 8) (few : i < 8 → x.fs.length = i ∧ ∀ q ∈ (ids x.fs).map (·.1), q < i) (all : 8 ≤ i → x.fs.length = 8) :
    (i + 1 < 8 → x'.fs.length = i + 1 ∧ ∀ q ∈ (ids x'.fs).map (·.1), q < i + 1) ∧ (8 ≤ i + 1 → x'.fs.length = 8) := by
  by_cases hi : i < 8
  · obtain ⟨h1, h2⟩ := few hi
    have hno : i ∉ (ids x.fs).map (·.1) := fun e => by have := h2 i e; omega
    have hl : x'.fs.length = i + 1 := by
      rcases hf.length with ⟨h3, h4 | h4⟩ | ⟨h3, h4, _⟩
      · exact absurd h4 hno
      · omega
      · omega
    refine ⟨fun h3 => ⟨hl, fun q hq => ?_⟩, fun h3 => by omega⟩
    rcases hf.pgs q hq with h4 | h4
    · have := h2 q h4
      omega
    · omega
  · have h1 := all (by omega)
    refine ⟨fun h3 => by omega, fun _ => ?_⟩
    rcases hf.length with ⟨h3, _⟩ | ⟨h3, h4, _⟩
    · omega
    · omega
theorem over500 {m : List UInt8} (h : m.length = 512) (b : UInt8) : (over m 500 [b])[500]? = some b := by
  unfold over
  rw [List.getElem?_append_right (by simp [h]), List.length_take, h]
  rfl
/-- A page is changed: what was so far is, and it too. -/
theorem Aw.chg {w wr w1 w2 : World} {rg : Nat} {x : Po} {i : Nat} (h : Aw w wr rg x i) (hi : i < 20) {y' : Lo} {lsn : Nat} {fit : Bool} (ra : RApp wr w1 rg x fit lsn y') {x'' : Po} (r2 : RigAt w2 rg x'') (st : Step w1 w2 { x with y := y' } x'') (hc : Chg { x with y := y' } x'' i 500 [UInt8.ofNat (i + 1)] (lsn : Int)) : Aw w w2 rg x'' (i + 1) := by
  have h1 := aw_new h.new h.fr ra.st rfl
  have hv := hc.val ra.at'.po.nod r2.po.nod
  have h2 := aw_new h1.1 h1.2 st hv.2.2.2.1
  have k := hc.kin
  obtain ⟨f, x', hf, hl, hids⟩ := hc.pgs
  have hfw := aw_few hf h.most h.few h.all
  refine ⟨r2, h2.2, h2.1, hv.2.1.trans h.pages, hv.2.2.1.trans h.most, k.count.trans (ra.gr.count.trans h.count), k.T.trans (ra.gr.T.trans h.T), ?_, hc.hd0 h.hd, ?_, ?_, ?_⟩
  · have e1 : x''.y.E = y'.E := k.E
    have := ra.gr.E2
    have := h.E
    omega
  · rw [hl, hids]
    exact hfw.1
  · rw [hl]
    exact hfw.2
  · intro q hq hq2
    by_cases e : q = i
    · subst e
      obtain ⟨m, hm⟩ := Val.ex x q
      have hm1 := ra.al.2.2.2.2.2.2 q (by rw [h.pages]; exact hi) m hm
      exact ⟨_, hv.2.2.2.2.2.2.2 m hm1, over500 (hm.len h.at'.po) _⟩
    · obtain ⟨m, hm, hb⟩ := h.val q (by omega) hq2
      have hm1 := ra.al.2.2.2.2.2.2 q (by rw [h.pages]; exact hq2) m hm
      exact ⟨m, hv.2.2.2.2.2.2.1 q (by show q < x.pages; rw [h.pages]; exact hq2) e m hm1, hb⟩
/-- A page is read. -/
theorem Aw.read {w wr w1 : World} {rg : Nat} {x x' : Po} {g : Nat} {f : Fm} {i k : Nat} (h : Aw w wr rg x i) (hi8 : 8 ≤ i) (r : RRead wr w1 rg x x' k g f) : Aw w w1 rg x' i ∧ Val x k f.l := by
  obtain ⟨al, hv, _⟩ := r.fnd.alike h.at'.po.nod
  have h1 := aw_new h.new h.fr r.st al.2.2.2.1
  have kk := r.fnd.kin
  refine ⟨⟨r.at', h1.2, h1.1, al.2.1.trans h.pages, al.2.2.1.trans h.most, kk.count.trans h.count, kk.T.trans h.T, by rw [kk.E]; exact h.E, (r.fnd.hd0 h.hd).1, fun h3 => by omega, fun _ => ?_, fun q hq hq2 => ?_⟩, hv⟩
  · have h3 := h.all hi8
    have h4 := h.most
    rcases r.fnd.length with ⟨h5, _⟩ | ⟨h5, _, _⟩
    · omega
    · omega
  · obtain ⟨m, hm, hb⟩ := h.val q hq hq2
    exact ⟨m, al.2.2.2.2.2.2 q (by rw [h.pages]; exact hq2) m hm, hb⟩
set_option maxHeartbeats 4000000 in
set_option maxRecDepth 100000 in
theorem awake_any (w : World) : Calls Tryz.prog 15 #[] w fun e w' => e = .returned (.bool true) ∧ Fr [] w w' := by
  go_enter Tryz.func15, Tryz.ntmps15
  go_wp2_with fail
  refine (begin_ok w 20 8 (by omega) (by omega) (by omega) (by omega)).mono ?_
  rintro e w1 ⟨rg, d, bs, bo, p, pp, rp, mp, rfl, R1, N1, f1⟩
  have A1 := hidI (⟨R1, f1, N1, rfl, rfl, rfl, rfl, Nat.le_refl _, fun f hf => (nomatch hf), fun _ => ⟨rfl, fun q hq => (nomatch hq)⟩, fun h => absurd h (by omega), fun q hq => absurd hq (by omega)⟩ : Aw w w1 rg (po0 d bs bo (12 + ((20 : Nat) : Int)) p pp rp mp 12 20 8 12) 0)
  have c2 : w1.cell? ⟨rg, 2, none⟩ = some (.pointer (some ⟨pp, 0, none⟩)) := R1.box.c2
  clear R1 N1 f1
  go_wp2_with fail
  go_loopw [2, 3] (fun s2 s3 wr => ∃ (i : Nat) (x : Po), i ≤ 20 ∧ s2 = .int .i64 (i : Int) ∧ s3 = s3 ∧ x.pp = pp ∧ Hid (Aw w wr rg x i)) (fun s2 _ _ => 20 - (intOf s2).toNat)
  case atStart => exact ⟨0, _, by omega, rfl, rfl, rfl, A1⟩
  case round =>
    obtain ⟨i, x, hi, rfl, -, hpp, HA⟩ := hrel
    have k2 : wr.cell? ⟨rg, 2, none⟩ = some (.pointer (some ⟨pp, 0, none⟩)) := by rw [← hpp]; exact HA.out.at'.box.c2
    by_cases hlt : i < 20
    · have q1 : (i : Int) < 20 := by omega
      have hwi : IntKind.i64.wrap ((i : Int) + 1) = (i : Int) + 1 := wrapI _ (by omega) (by omega)
      have fa : Fr [] wr ((wr.alloc (.cells #[.int .u8 ((i : Int) + 1)] 5)).alloc (.cells #[.int .i64 (i : Int), .int .i64 500, .slice none 0 0, .slice (some ⟨wr.heap.size, 0, none⟩) 1 1] 42)) := ((Fr.refl [] wr).alloc _).alloc _
      have hb2 : ((wr.alloc (.cells #[.int .u8 ((i : Int) + 1)] 5)).alloc (.cells #[.int .i64 (i : Int), .int .i64 500, .slice none 0 0, .slice (some ⟨wr.heap.size, 0, none⟩) 1 1] 42)).heap[wr.heap.size]? = some (.cells #[.int .u8 ((i : Int) + 1)] 5) := ((Fr.refl [] (wr.alloc (.cells #[.int .u8 ((i : Int) + 1)] 5))).alloc _).same (by simp) (heap_alloc_new wr _)
      have hs2 : ((wr.alloc (.cells #[.int .u8 ((i : Int) + 1)] 5)).alloc (.cells #[.int .i64 (i : Int), .int .i64 500, .slice none 0 0, .slice (some ⟨wr.heap.size, 0, none⟩) 1 1] 42)).heap[wr.heap.size + 1]? = some (.cells #[.int .i64 (i : Int), .int .i64 500, .slice none 0 0, .slice (some ⟨wr.heap.size, 0, none⟩) 1 1] 42) := by
        have h1 := heap_alloc_new (wr.alloc (.cells #[.int .u8 ((i : Int) + 1)] 5)) (.cells #[.int .i64 (i : Int), .int .i64 500, .slice none 0 0, .slice (some ⟨wr.heap.size, 0, none⟩) 1 1] 42)
        have e1 : (wr.alloc (.cells #[.int .u8 ((i : Int) + 1)] 5)).heap.size = wr.heap.size + 1 := by simp
        rw [e1] at h1
        exact h1
      go_wp2_with fail
      generalize ((wr.alloc (.cells #[.int .u8 ((i : Int) + 1)] 5)).alloc (.cells #[.int .i64 (i : Int), .int .i64 500, .slice none 0 0, .slice (some ⟨wr.heap.size, 0, none⟩) 1 1] 42)) = w2 at fa hb2 hs2 ⊢
      obtain ⟨bb, HBB⟩ : ∃ bb, Hid (wr.heap.size = bb) := ⟨_, rfl⟩
      obtain ⟨sb, HSB⟩ : ∃ sb, Hid (wr.heap.size + 1 = sb) := ⟨_, rfl⟩
      rw [HSB.out, HBB.out] at hs2
      rw [HBB.out] at hb2
      rw [HSB.out, HBB.out]
      have R2 := hidI (HA.out.at'.kept fa (by simp) (by simp))
      have hB : BytesAt w2 (some ⟨bb, 0, none⟩) [UInt8.ofNat (i + 1)] := by
        intro j v hv
        cases j with
        | zero =>
          refine ⟨bb, 0, rfl, ?_⟩
          have e1 : ((i : Int) + 1) % 256 = (i : Int) + 1 := by omega
          simp [arr] at hv
          subst hv
          rw [e1]
          exact cell_of_row w2 bb 0 _ _ _ hb2
        | succ j => simp [arr] at hv
      have HBY := hidI hB
      have hown : ∀ k ∈ rg :: x.pp :: x.own, k < bb := fun k hk => by
        have h1 : k < wr.heap.size := by
          rcases List.mem_cons.1 hk with rfl | hk
          · exact HA.out.at'.lt
          · exact HA.out.at'.po.lt k hk
        rw [← HBB.out]
        exact h1
      have HOW := hidI hown
      have HS2 := hidI hs2
      have hsb : bb < sb := by have := HBB.out; have := HSB.out; omega
      clear hB hown hb2 hs2
      go_cut [32] from 13 to 32 (fun s32 wx => s32 = .bool false ∧ ∃ x', x'.pp = pp ∧ Hid (Aw w wx rg x' (i + 1)))
      case first =>
        obtain ⟨W0, HW0⟩ : ∃ W0, Hid (W0 = w2) := ⟨_, rfl⟩
        have gg : Fr [] W0 w2.drew := (by rw [HW0.out]; exact (Fr.refl _ _).drew)
        have SK : Hid (∀ w' L, Fr L W0 w' → (∀ k ∈ L, k ∈ x.own) → w'.cell? ⟨rg, 2, none⟩ = some (.pointer (some ⟨pp, 0, none⟩)) ∧ w'.cell? ⟨sb, 0, none⟩ = some (.int .i64 (i : Int)) ∧ w'.cell? ⟨sb, 1, none⟩ = some (.int .i64 500) ∧ w'.cell? ⟨sb, 2, none⟩ = some (.slice none 0 0) ∧ w'.cell? ⟨sb, 3, none⟩ = some (.slice (some ⟨bb, 0, none⟩) 1 1)) := hidI (fun w' L f hL => by
          rw [HW0.out] at f
          have hL2 : ∀ k ∈ L, k < bb := fun k hk => HOW.out k (List.mem_cons_of_mem _ (List.mem_cons_of_mem _ (hL k hk)))
          have r1 := R2.out.box.kept f (fun e => HA.out.at'.ne (List.mem_cons_of_mem _ (hL _ e)))
          have s1 := f.same (k := sb) (fun e => by have := hL2 _ e; omega) HS2.out
          refine ⟨by rw [← hpp]; exact r1.c2, cell_of_row w' sb 0 _ _ _ s1, cell_of_row w' sb 1 _ _ _ s1, cell_of_row w' sb 2 _ _ _ s1, cell_of_row w' sb 3 _ _ _ s1⟩)
        have k0 := SK.out _ [] gg (by simp)
        have R2d := hidI (R2.out.kept (Fr.refl [] w2).drew (by simp) (by simp))
        have HCHG : Hid (∀ w4 lsn y4, RApp w2.drew w4 rg x (fitsB (i : Int) 500 1) lsn y4 → Calls Tryz.prog 69 #[.pointer (some ⟨pp, 0, none⟩), .agg #[.int .i64 (i : Int), .int .i64 500, .slice none 0 0, .slice (some ⟨bb, 0, none⟩) 1 1], .int .i64 (lsn : Int)] w4 fun e w5 => e = .returned (.int .i64 0) ∧ ∃ x5, RigAt w5 rg x5 ∧ Step w4 w5 { x with y := y4 } x5 ∧ Chg { x with y := y4 } x5 i 500 [UInt8.ofNat (i + 1)] (lsn : Int)) := hidI (fun w4 lsn y4 ra => by
          have hbx : bb ∉ ({ x with y := y4 } : Po).own := fun e => by
            rcases ra.st.ow bb e with h1 | h1
            · have := HOW.out bb (List.mem_cons_of_mem _ (List.mem_cons_of_mem _ h1))
              omega
            · have h2 := (Array.getElem?_eq_some_iff.1 HS2.out).1
              have h3 : w2.heap.size ≤ bb := h1
              omega
          have HCH := rig_change ra.at' (page := i) (by show i < x.pages; rw [HA.out.pages]; exact hlt) 500 none 0 0 (some ⟨bb, 0, none⟩) 1 [UInt8.ofNat (i + 1)] (by simp) (by simp) ((HBY.out.kept (Fr.refl [] w2).drew (by simp)).kept ra.st.fr (fun b o e => by
            cases e
            intro hb
            have := HOW.out bb (List.mem_cons_of_mem _ (List.mem_cons_of_mem _ hb))
            omega)) (fun b o e => by cases e; exact hbx) (lsn : Int) (by have h1 := ra.ok (by simp [fitsB]; omega); omega) (by have := ra.le; show (lsn : Int) ≤ (y4.E : Int); omega)
          rw [← hpp]
          refine HCH.mono ?_
          rintro e w5 (⟨_, hbz, _⟩ | ⟨rfl, x5, r5, st5, ch5⟩)
          · exact absurd hbz (fun hbz => hbz.no HA.out.hd (by show 8 ≤ x.most; rw [HA.out.most]; omega))
          · exact ⟨rfl, x5, r5, st5, ch5⟩)
        have HE := HA.out.E
        have HT := HA.out.T
        have HC := HA.out.count
        have HP := HA.out.pages
        go_region_held3 (fun w' => w'.cell? ⟨rg, 2, none⟩ = some (.pointer (some ⟨pp, 0, none⟩)) ∧ w'.cell? ⟨sb, 0, none⟩ = some (.int .i64 (i : Int)) ∧ w'.cell? ⟨sb, 1, none⟩ = some (.int .i64 500) ∧ w'.cell? ⟨sb, 2, none⟩ = some (.slice none 0 0) ∧ w'.cell? ⟨sb, 3, none⟩ = some (.slice (some ⟨bb, 0, none⟩) 1 1)) (first | exact SK.out _ [] gg (by simp) | exact kk)
          ((first
            | (go_at_call 70; refine (rig_app1 R2d.out (i : Int) 500 [UInt8.ofNat (i + 1)] none 0 0 (some ⟨bb, 0, none⟩) 1 (HBY.out.kept (Fr.refl [] w2).drew (by simp)) (fun e => nomatch e) (fun b o e => by cases e; intro hb; have := HOW.out bb (by simp only [Po.own, List.mem_cons, List.mem_append]; exact Or.inr (Or.inr (Or.inr (Or.inr hb)))); omega) (by simp) (by omega) (by omega) HC).mono ?_; rintro e w4 ⟨lsn, rfl, y4, ra4⟩; have kk : w4.cell? ⟨rg, 2, none⟩ = some (.pointer (some ⟨pp, 0, none⟩)) ∧ w4.cell? ⟨sb, 0, none⟩ = some (.int .i64 (i : Int)) ∧ w4.cell? ⟨sb, 1, none⟩ = some (.int .i64 500) ∧ w4.cell? ⟨sb, 2, none⟩ = some (.slice none 0 0) ∧ w4.cell? ⟨sb, 3, none⟩ = some (.slice (some ⟨bb, 0, none⟩) 1 1) := SK.out _ x.own ((gg.mono (fun _ _ e => nomatch e)).trans ra4.st.fr) (fun _ hk => hk); have RA4 := hidI ra4; clear ra4)
            | (go_at_call 69; refine (HCHG.out _ _ _ RA4.out).mono ?_; rintro e w5 ⟨rfl, x5, r5, st5, ch5⟩; have kk := SK.out _ x.own ((gg.mono (M := x.own) (fun _ _ e => nomatch e)).trans (RA4.out.st.trans st5).fr) (fun _ hk => hk))))
        all_goals
          have HAW := hidI ((⟨HA.out.at'.kept (fa.trans (Fr.refl [] w2).drew) (by simp) (by simp), HA.out.fr.trans (fa.trans (Fr.refl [] w2).drew), HA.out.new, HA.out.pages, HA.out.most, HA.out.count, HA.out.T, HA.out.E, HA.out.hd, HA.out.few, HA.out.all, HA.out.val⟩ : Aw w w2.drew rg x i).chg hlt RA4.out r5 st5 ch5)
          have hv5 := (ch5.val RA4.out.at'.po.nod r5.po.nod).2.2.2.1
          have hpp5 : x5.pp = pp := hv5.trans hpp
          clear r5 st5 ch5 hv5
          go_wp2_with fail
          go_meet
          exact ⟨rfl, x5, hpp5, HAW⟩
      case rest =>
        obtain ⟨rfl, x5, hpp5, HA5⟩ := hcut
        go_wp2_with fail
        exact ⟨⟨i + 1, x5, by omega, by go_num, trivial, hpp5, HA5⟩, by simp [intOf]; omega⟩
    · have q1 : ¬ (i : Int) < 20 := by omega
      have hi20 : i = 20 := by omega
      subst hi20
      go_wp2_with fail
      go_loopw [4, 5, 6] (fun s4 s5 s6 wz => ∃ (k : Nat) (z : Po), k ≤ 20 ∧ s4 = .int .i64 (k : Int) ∧ s5 = s5 ∧ s6 = s6 ∧ z.pp = pp ∧ Hid (Aw w wz rg z 20)) (fun s4 _ _ _ => 20 - (intOf s4).toNat)
      case atStart => exact ⟨0, x, by omega, rfl, rfl, rfl, hpp, HA⟩
      case round =>
        obtain ⟨k, z, hk, rfl, -, -, hzp, HZ⟩ := hrel
        have c2z : wr.cell? ⟨rg, 2, none⟩ = some (.pointer (some ⟨pp, 0, none⟩)) := by rw [← hzp]; exact HZ.out.at'.box.c2
        by_cases hk2 : k < 20
        · have q2 : (k : Int) < 20 := by omega
          have hwk : IntKind.i64.wrap ((k : Int) + 1) = (k : Int) + 1 := wrapI _ (by omega) (by omega)
          have HRD : Hid (Calls Tryz.prog 71 #[.pointer (some ⟨pp, 0, none⟩), .int .i64 (k : Int)] wr fun e w' => ∃ g : Nat, e = .returned (.tuple #[.slice (some ⟨g, 0, none⟩) 512 512, .int .i64 0]) ∧ w'.cell? ⟨g, 500, none⟩ = some (.int .u8 ((k : Int) + 1)) ∧ ∃ z', z'.pp = pp ∧ Hid (Aw w w' rg z' 20)) := hidI (by
            rw [← hzp]
            refine (rig_read HZ.out.at' (page := k) (by rw [HZ.out.pages]; exact hk2)).mono ?_
            rintro e w' (⟨_, hbz, _⟩ | ⟨g, rfl, f, z', rr⟩)
            · exact absurd hbz (fun hbz => hbz.no HZ.out.hd (by rw [HZ.out.most]; omega))
            · obtain ⟨hz', hv⟩ := HZ.out.read (by omega) rr
              obtain ⟨m, hm, hb⟩ := HZ.out.val k hk2 hk2
              have e1 := Val.uniq HZ.out.at'.po.nod hm hv
              rw [e1] at hb
              refine ⟨g, rfl, ?_, z', ((rr.fnd.alike HZ.out.at'.po.nod).1).2.2.2.1, hidI hz'⟩
              have h1 := rr.row
              unfold Blk at h1
              rw [cell_of_row w' g 500 _ _ _ h1]
              have h2 : (arr f.l)[500]? = some (.int .u8 ((UInt8.ofNat (k + 1)).toNat : Int)) := by
                unfold arr
                rw [List.getElem?_toArray, List.getElem?_map, hb]
                rfl
              rw [h2]
              have e2 : (UInt8.ofNat (k + 1)).toNat = k + 1 := by simp; omega
              rw [e2]
              rfl)
          go_wp2_with (go_at_call 71; refine HRD.out.mono ?_; rintro e w4 ⟨g, rfl, cg, z', hz', HZ'⟩)
          exact ⟨⟨k + 1, z', by omega, by go_num, trivial, trivial, hz', HZ'⟩, by simp [intOf]; omega⟩
        · have q2 : ¬ (k : Int) < 20 := by omega
          have HFR : Hid (Calls Tryz.prog 20 #[.pointer (some ⟨pp, 0, none⟩)] wr fun e w' => e = .returned (.int .i64 8) ∧ w' = wr) := hidI (by
            have h1 := frames_any HZ.out.at'.po
            rw [hzp, HZ.out.all (by omega)] at h1
            exact h1)
          have HFL : Hid (Calls Tryz.prog 72 #[.pointer (some ⟨pp, 0, none⟩)] wr fun e w' => e = .returned (.int .i64 0) ∧ w'.cell? ⟨rg, 2, none⟩ = some (.pointer (some ⟨pp, 0, none⟩)) ∧ Fr [] w w' ∧ ∃ z', PoAt w' z' ∧ z'.pp = pp ∧ ∀ f ∈ z'.fs, f.fst = 0) := hidI (by
            have h1 := flush_any HZ.out.at'.po
            rw [← hzp]
            refine h1.mono ?_
            rintro e w' ⟨rfl, z', st, fl⟩
            have hz2 := fl.al.2.2.2.1
            have r2 := HZ.out.at'.step st fl.kin.d fl.kin.p hz2
            exact ⟨rfl, by rw [← hz2]; exact r2.box.c2, (aw_new HZ.out.new HZ.out.fr st hz2).2, z', st.at', hz2, fl.clean⟩)
          go_wp2_with (first
            | (go_at_call 20; refine HFR.out.mono ?_; rintro e wx ⟨rfl, hx⟩; rw [hx]; clear hx)
            | (go_at_call 72; refine HFL.out.mono ?_; rintro e w4 ⟨rfl, c4, f4, z', hz4, hpz4, hcl4⟩; have HDI : Hid (Calls Tryz.prog 21 #[.pointer (some ⟨pp, 0, none⟩)] w4 fun e w' => e = .returned (.slice none 0 0) ∧ w' = w4) := hidI (by rw [← hpz4]; exact pdirty_zero hz4 hcl4))
            | (go_at_call 21; refine HDI.out.mono ?_; rintro e wx ⟨rfl, hx⟩; rw [hx]; clear hx))
          go_ret
          exact ⟨rfl, f4⟩
end Go.Proofs.YtopaeomjndblkaaGreat

namespace Go.Proofs.YtopaeomjndblkaaGreat
open Go.RowKit Go.Maps

set_option maxHeartbeats 1000000 in
set_option maxRecDepth 100000 in
/-- Change of a page that is none. -/
theorem change_out {w : World} {x : Po} (h : PoAt w x) {k : Int} (hk : k < 0 ∨ (x.pages : Int) ≤ k) (off lsn : Int) (a1 ad : Option Addr) (n1 c1 n c : Nat) :
    Calls Tryz.prog 69 #[.pointer (some ⟨x.pp, 0, none⟩), .agg #[.int .i64 k, .int .i64 off, .slice a1 n1 c1, .slice ad n c], .int .i64 lsn] w fun e w' => e = .returned (.int .i64 6) ∧ Fr [] w w' := by
  have fa : Fr [] w (w.alloc (.cells #[.int .i64 k, .int .i64 off, .slice a1 n1 c1, .slice ad n c] 42)) := (Fr.refl [] w).alloc _
  have H1 := hidI (h.kept fa (by simp))
  have hr : hasR x.pf k = 6 := by
    exact if_pos hk
  clear h hk
  go_enter Tryz.func69, Tryz.ntmps69
  go_wp2_with (go_at_call 167; refine (has_any H1.out.box _).mono ?_; rw [hr]; rintro e wz ⟨rfl, hz⟩; rw [hz]; clear hz)
  go_ret
  exact ⟨rfl, fa⟩
/-- May these bytes be written there? -/
def mayB (off : Int) (n : Nat) : Bool := decide (0 ≤ off) && decide (off ≤ 512) && decide (0 < n) && decide (off + (n : Int) ≤ 512)
set_option maxHeartbeats 2000000 in
set_option maxRecDepth 100000 in
/-- Change with bytes that may not be there. -/
theorem change_bad {w : World} {x : Po} (h : PoAt w x) {page : Nat} (hp : page < x.pages) (off lsn : Int) (a1 ad : Option Addr) (n1 c1 n c : Nat) (ho : (Lit.int .i64 off).wf = true) (hn : n ≤ 5000) (hbad : mayB off n = false) :
    Calls Tryz.prog 69 #[.pointer (some ⟨x.pp, 0, none⟩), .agg #[.int .i64 (page : Int), .int .i64 off, .slice a1 n1 c1, .slice ad n c], .int .i64 lsn] w fun e w' => e = .returned (.int .i64 2) ∧ Fr [] w w' := by
  obtain ⟨o1, o2⟩ := i64_bounds ho
  have fa : Fr [] w (w.alloc (.cells #[.int .i64 (page : Int), .int .i64 off, .slice a1 n1 c1, .slice ad n c] 42)) := (Fr.refl [] w).alloc _
  have H1 := hidI (h.kept fa (by simp))
  have hr : hasR x.pf (page : Int) = 0 := by
    unfold hasR
    rw [if_neg (by show ¬ ((page : Int) < 0 ∨ (x.pages : Int) ≤ (page : Int)); omega)]
  clear h hp ho
  by_cases h0 : off < 0
  · clear hbad
    go_enter Tryz.func69, Tryz.ntmps69
    go_wp2_with (go_at_call 167; refine (has_any H1.out.box _).mono ?_; rw [hr]; rintro e wz ⟨rfl, hz⟩; rw [hz]; clear hz)
    go_ret
    exact ⟨rfl, fa⟩
  by_cases h1 : n = 0
  · clear hbad
    subst h1
    go_enter Tryz.func69, Tryz.ntmps69
    go_wp2_with (go_at_call 167; refine (has_any H1.out.box _).mono ?_; rw [hr]; rintro e wz ⟨rfl, hz⟩; rw [hz]; clear hz)
    go_ret
    exact ⟨rfl, fa⟩
  · have q1 : ((n : Int) == 0) = false := by rw [beq_eq_false_iff_ne]; omega
    have q2 : IntKind.i64.wrap (512 - (n : Int)) = 512 - (n : Int) := wrapI _ (by omega) (by omega)
    have q3 : 512 - (n : Int) < off := by
      unfold mayB at hbad
      simp at hbad
      omega
    clear hbad
    go_enter Tryz.func69, Tryz.ntmps69
    go_wp2_with (go_at_call 167; refine (has_any H1.out.box _).mono ?_; rw [hr]; rintro e wz ⟨rfl, hz⟩; rw [hz]; clear hz)
    go_ret
    exact ⟨rfl, fa⟩
set_option maxHeartbeats 2000000 in
set_option maxRecDepth 100000 in
/-- Change with an lsn that is none of the log's. -/
theorem change_lsn {w : World} {x : Po} (h : PoAt w x) {page : Nat} (hp : page < x.pages) (off lsn : Int) (a1 ad : Option Addr) (n1 c1 n c : Nat) (hn : n ≤ 5000) (hm : mayB off n = true) (hbad : lsn < 1 ∨ (x.y.E : Int) < lsn) :
    Calls Tryz.prog 69 #[.pointer (some ⟨x.pp, 0, none⟩), .agg #[.int .i64 (page : Int), .int .i64 off, .slice a1 n1 c1, .slice ad n c], .int .i64 lsn] w fun e w' => e = .returned (.int .i64 2) ∧ Fr [] w w' := by
  unfold mayB at hm
  simp at hm
  have fa : Fr [] w (w.alloc (.cells #[.int .i64 (page : Int), .int .i64 off, .slice a1 n1 c1, .slice ad n c] 42)) := (Fr.refl [] w).alloc _
  have H1 := hidI (h.kept fa (by simp))
  have hr : hasR x.pf (page : Int) = 0 := by
    unfold hasR
    rw [if_neg (by show ¬ ((page : Int) < 0 ∨ (x.pages : Int) ≤ (page : Int)); omega)]
  have q0 : ¬ off < 0 := by omega
  have q1 : ((n : Int) == 0) = false := by rw [beq_eq_false_iff_ne]; omega
  have q2 : IntKind.i64.wrap (512 - (n : Int)) = 512 - (n : Int) := wrapI _ (by omega) (by omega)
  have q3 : ¬ 512 - (n : Int) < off := by omega
  have b1 : (w.alloc (.cells #[.int .i64 (page : Int), .int .i64 off, .slice a1 n1 c1, .slice ad n c] 42)).cell? ⟨x.pp, 1, none⟩ = some (.pointer (some ⟨x.y.p, 0, none⟩)) := H1.out.box.c1
  clear h hp hm
  by_cases h1 : lsn < 1
  · clear hbad
    go_enter Tryz.func69, Tryz.ntmps69
    go_wp2_with (go_at_call 167; refine (has_any H1.out.box _).mono ?_; rw [hr]; rintro e wz ⟨rfl, hz⟩; rw [hz]; clear hz)
    go_ret
    exact ⟨rfl, fa⟩
  · have q5 : (x.y.E : Int) + 1 ≤ lsn := by omega
    clear hbad
    go_enter Tryz.func69, Tryz.ntmps69
    go_wp2_with (first
      | (go_at_call 167; refine (has_any H1.out.box _).mono ?_; rw [hr]; rintro e wz ⟨rfl, hz⟩; rw [hz]; clear hz)
      | (go_at_call 77; refine (lo_end H1.out.lo).mono ?_; rintro e wz ⟨rfl, hz⟩; rw [hz]; clear hz))
    go_ret
    exact ⟨rfl, fa⟩
set_option maxHeartbeats 1000000 in
set_option maxRecDepth 100000 in
/-- Lists of a span that were lent are written over. -/
theorem overSpan_any (w : World) (blk off : Int) (g1 k1 n1 g2 k2 n2 : Nat) (l1 l2 : List UInt8) (h1 : LentAt w g1 k1 l1) (h2 : LentAt w g2 k2 l2) (e1 : l1.length = n1) (e2 : l2.length = n2) (m1 : n1 ≤ 5000) (m2 : n2 ≤ 5000) (hne : g1 ≠ g2) :
    Calls Tryz.prog 80 #[.agg #[.int .i64 blk, .int .i64 off, .slice (some ⟨g1, 0, none⟩) n1 k1, .slice (some ⟨g2, 0, none⟩) n2 k2]] w fun e w' => e = .returned (.tuple #[]) ∧ Fr [g1, g2] w w' := by
  have fa : Fr [] w (w.alloc (.cells #[.int .i64 blk, .int .i64 off, .slice (some ⟨g1, 0, none⟩) n1 k1, .slice (some ⟨g2, 0, none⟩) n2 k2] 42)) := (Fr.refl [] w).alloc _
  have hb := heap_alloc_new w (.cells #[.int .i64 blk, .int .i64 off, .slice (some ⟨g1, 0, none⟩) n1 k1, .slice (some ⟨g2, 0, none⟩) n2 k2] 42)
  have H1 := hidI (h1.kept fa (by simp))
  have H2 := hidI (h2.kept fa (by simp))
  have l1' := h1.lt
  have hz1 : w.heap.size ∉ [g1] := by
    simp
    omega
  have X2 : Hid (∀ w2, Fr [g1] (w.alloc (.cells #[.int .i64 blk, .int .i64 off, .slice (some ⟨g1, 0, none⟩) n1 k1, .slice (some ⟨g2, 0, none⟩) n2 k2] 42)) w2 → w2.cell? ⟨w.heap.size, 3, none⟩ = some (.slice (some ⟨g2, 0, none⟩) n2 k2) ∧ LentAt w2 g2 k2 l2) := hidI (fun w2 f => ⟨cell_of_row w2 w.heap.size 3 _ _ _ (f.same hz1 hb), H2.out.kept f (by simp; exact fun e => hne e.symm)⟩)
  clear h1 h2 hne hz1
  go_enter Tryz.func80, Tryz.ntmps80
  go_upto_region 2 with (go_at_call 181; refine (over_any _ g1 k1 n1 l1 e1 m1 H1.out).mono ?_; rintro e w2 ⟨rfl, f2⟩)
  obtain ⟨d3, HL⟩ := X2.out w2 f2
  clear X2 hb
  go_wp2_with (go_at_call 181; refine (over_any _ g2 k2 n2 l2 e2 m2 HL).mono ?_; rintro e w3 ⟨rfl, f3⟩)
  go_end0
  exact ⟨rfl, ((fa.mono (fun _ _ h => nomatch h)).trans (f2.mono (fun k _ hk => by simp at hk; simp [hk]))).trans (f3.mono (fun k _ hk => by simp at hk; simp [hk]))⟩
end Go.Proofs.YtopaeomjndblkaaGreat

