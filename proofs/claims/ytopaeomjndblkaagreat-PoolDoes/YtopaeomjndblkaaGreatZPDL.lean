/-
  PoolDoes' law.
-/
import Derived.Test.YtopaeomjndblkaaGreatW14Z
import Derived.Test.YtopaeomjndblkaaGreatW07Z
import Derived.Test.YtopaeomjndblkaaGreatW08Z
import Derived.Deep.RegionHeld
namespace Go.Proofs.YtopaeomjndblkaaGreat
open Go.RowKit Go.Maps

/-- A row of one version: noughts, at three blocks that were just made. -/
def zrow (z : Nat) : Rw := ⟨z + 1, 1, [⟨z, 512, zs 512, 0⟩]⟩
/-- A deed that is handed in, in whatever world is behind. -/
theorem deeds_cells {w0 : World} {ad : Option Addr} {L : List DeedV} (h : DeedsAt w0 ad L) {k : Nat} {d : DeedV} (hk : L[k]? = some d) : ∃ b off, ad = some ⟨b, off, none⟩ ∧ ∀ w', Fr [] w0 w' → w'.cell? ⟨b, off + k * 8, none⟩ = some (.int .i64 d.kind) ∧ w'.cell? ⟨b, off + k * 8 + 1, none⟩ = some (.int .i64 d.page) ∧ w'.cell? ⟨b, off + k * 8 + 2, none⟩ = some (.int .i64 d.blk) ∧ w'.cell? ⟨b, off + k * 8 + 3, none⟩ = some (.int .i64 d.off) ∧ w'.cell? ⟨b, off + k * 8 + 4, none⟩ = some (.slice d.a1 d.l1.length d.c1) ∧ w'.cell? ⟨b, off + k * 8 + 5, none⟩ = some (.slice d.a2 d.l2.length d.c2) ∧ w'.cell? ⟨b, off + k * 8 + 6, none⟩ = some (.int .i64 d.N) ∧ w'.cell? ⟨b, off + k * 8 + 7, none⟩ = some (.bool d.odd) := by
  obtain ⟨_, b, off, ha, _⟩ := h k d hk
  refine ⟨b, off, ha, fun w' f => ?_⟩
  obtain ⟨_, b2, off2, ha2, hc⟩ := (h.kept f) k d hk
  rw [ha] at ha2
  cases ha2
  exact ⟨hc 0 _ rfl, hc 1 _ rfl, hc 2 _ rfl, hc 3 _ rfl, hc 4 _ rfl, hc 5 _ rfl, hc 6 _ rfl, hc 7 _ rfl⟩
set_option maxHeartbeats 16000000 in
set_option maxRecDepth 100000 in
theorem poolDoes_law (w : World) (pg fr : Int) (hpg : (Lit.int .i64 pg).wf = true) (ad : Option Addr) (nL cL : Nat) (L : List DeedV) (hnL : L.length = nL) (hmL : nL ≤ maxLen) (hD : DeedsAt w ad L) :
    Calls Tryz.prog 3 #[.int .i64 pg, .int .i64 fr, .slice ad nL cL] w fun e w' => e = .returned (.bool true) ∧ Fr [] w w' := by
  have HD := hidI hD
  have HL := hidI hnL
  have zL : nL ≤ 9223372036854775807 := hmL
  clear hD hnL hmL
  go_enter Tryz.func3, Tryz.ntmps3
  go_upto_region 3 with (go_at_call 15; refine (awake_any _).mono ?_; rintro e w1 ⟨rfl, f1⟩)
  by_cases h80 : 80 < nL
  · have q0 : (80 : Int) < (nL : Int) := by omega
    go_wp2_with fail
    go_ret
    exact ⟨rfl, f1⟩
  have q0 : ¬ (80 : Int) < (nL : Int) := by omega
  by_cases h40 : 40 < pg
  · go_wp2_with fail
    go_ret
    exact ⟨rfl, f1⟩
  have BN : Hid (∀ k : Int, -5 ≤ k → k ≤ 40 → (k < 1 ∨ fr < 8 ∨ 1024 < fr) → Calls Tryz.prog 16 #[.int .i64 k, .int .i64 fr] w1 fun e w' => ∃ rg d v, e = .returned (.pointer (some ⟨rg, 0, none⟩)) ∧ w'.heap[rg]? = some (.cells #[.pointer (some ⟨d, 0, none⟩), v, .pointer none] 28) ∧ Fr [] w1 w') := hidI (fun k h0 h1 h2 => begin_none w1 k fr h0 (by omega) h2)
  by_cases h1p : pg < 1
  · by_cases h5 : pg < -5
    · have h5' : ¬ -5 ≤ pg := by omega
      go_wp2_with (go_at_call 16; refine (BN.out _ (by omega) (by omega) (by omega)).mono ?_; rintro e w2 ⟨rg, d2, v2, rfl, b2, f2⟩; have k2 : w2.cell? ⟨rg, 2, none⟩ = some (.pointer none) := cell_of_row w2 rg 2 _ _ _ b2)
      go_ret
      exact ⟨rfl, f1.trans f2⟩
    · go_wp2_with (go_at_call 16; refine (BN.out _ (by omega) (by omega) (by omega)).mono ?_; rintro e w2 ⟨rg, d2, v2, rfl, b2, f2⟩; have k2 : w2.cell? ⟨rg, 2, none⟩ = some (.pointer none) := cell_of_row w2 rg 2 _ _ _ b2)
      go_ret
      exact ⟨rfl, f1.trans f2⟩
  obtain ⟨pages, rfl⟩ : ∃ n : Nat, pg = (n : Int) := ⟨pg.toNat, by omega⟩
  have hp1 : 1 ≤ pages := by omega
  have hp40 : pages ≤ 40 := by omega
  have h5 : ¬ (pages : Int) < -5 := by omega
  by_cases h8 : fr < 8
  · go_wp2_with (go_at_call 16; refine (BN.out _ (by omega) (by omega) (by omega)).mono ?_; rintro e w2 ⟨rg, d2, v2, rfl, b2, f2⟩; have k2 : w2.cell? ⟨rg, 2, none⟩ = some (.pointer none) := cell_of_row w2 rg 2 _ _ _ b2)
    go_ret
    exact ⟨rfl, f1.trans f2⟩
  by_cases h10 : 1024 < fr
  · go_wp2_with (go_at_call 16; refine (BN.out _ (by omega) (by omega) (by omega)).mono ?_; rintro e w2 ⟨rg, d2, v2, rfl, b2, f2⟩; have k2 : w2.cell? ⟨rg, 2, none⟩ = some (.pointer none) := cell_of_row w2 rg 2 _ _ _ b2)
    go_ret
    exact ⟨rfl, f1.trans f2⟩
  obtain ⟨most, rfl⟩ : ∃ most : Nat, fr = (most : Int) := ⟨fr.toNat, by omega⟩
  have hm8 : 8 ≤ most := by omega
  have hm10 : most ≤ 1024 := by omega
  have BX := begin_ok w1 pages most hp1 (by omega) hm8 hm10
  clear BN h5
  go_upto_region 8 with (go_at_call 16; refine BX.mono ?_; rintro e w2 ⟨rg, dd, bs, bo, lp, pp, rp, mp, rfl, R1, new1, f2⟩)
  have k2 : w2.cell? ⟨rg, 2, none⟩ = some (.pointer (some ⟨pp, 0, none⟩)) := R1.box.c2
  have PX : Calls Tryz.prog 17 #[.pointer (some ⟨pp, 0, none⟩)] w2 (fun e w' => e = .returned (.int .i64 (pages : Int)) ∧ w' = w2) := pages_any R1.po.box
  have hmk := run_makeI w2 pages (by omega)
  have HR1 := hidI R1
  have HN1 := hidI new1
  have HF1 := hidI f1
  have HF2 := hidI f2
  clear R1 new1 BX f1 f2
  go_upto_region 12 with (go_at_call 17; refine PX.mono ?_; rintro e wz ⟨rfl, hz⟩; rw [hz]; clear hz)
  obtain ⟨hb, hhb⟩ : ∃ hb, w2.heap.size = hb := ⟨_, rfl⟩
  have ha := heap_alloc_new w2 (.cells (Array.replicate pages (.int .i64 0)) 3)
  have hbn := heap_alloc_new (w2.alloc (.cells (Array.replicate pages (.int .i64 0)) 3)) (.cells #[.slice none 0 0, .slice (some ⟨hb, 0, none⟩) pages pages] 36)
  have hsz : (w2.alloc (.cells (Array.replicate pages (.int .i64 0)) 3)).heap.size = hb + 1 := by simp [hhb]
  have fb : Fr [] (w2.alloc (.cells (Array.replicate pages (.int .i64 0)) 3)) ((w2.alloc (.cells (Array.replicate pages (.int .i64 0)) 3)).alloc (.cells #[.slice none 0 0, .slice (some ⟨hb, 0, none⟩) pages pages] 36)) := (Fr.refl [] _).alloc _
  have f23 : Fr [] w2 ((w2.alloc (.cells (Array.replicate pages (.int .i64 0)) 3)).alloc (.cells #[.slice none 0 0, .slice (some ⟨hb, 0, none⟩) pages pages] 36)) := ((Fr.refl [] w2).alloc _).alloc _
  have ha3 := fb.same (by simp) ha
  rw [hsz] at hbn
  rw [hhb] at ha3 ⊢
  obtain ⟨w3, hw3⟩ : ∃ w3, (w2.alloc (.cells (Array.replicate pages (.int .i64 0)) 3)).alloc (.cells #[.slice none 0 0, .slice (some ⟨hb, 0, none⟩) pages pages] 36) = w3 := ⟨_, rfl⟩
  rw [hw3] at hbn f23 ha3 ⊢
  obtain ⟨mb, hmb⟩ : ∃ mb, hb + 1 = mb := ⟨_, rfl⟩
  rw [hmb] at hbn ⊢
  obtain ⟨x0, hx0⟩ : ∃ x0, x0 = po0 dd bs bo (12 + (pages : Int)) lp pp rp mp 12 pages most 12 := ⟨_, rfl⟩
  have hlt2 : ∀ k ∈ rg :: x0.pp :: x0.own, w1.heap.size ≤ k ∧ k < w2.heap.size := fun k hk => by
    rw [hx0] at hk
    refine ⟨HN1.out k hk, ?_⟩
    rcases List.mem_cons.1 hk with e | e
    · rw [e]
      exact HR1.out.lt
    · exact HR1.out.po.lt k e
  have T0 : Hid (∃ m : Mo, m.mb = mb ∧ m.R.length = 0 ∧ m.hs = List.replicate pages 0 ∧ Zrows m.R ∧ m.ad = none ∧ m.c = 0 ∧ Pd w w3 rg x0 m) := hidI (by
    have hs1 := HF1.out.size
    have hs2 := HF2.out.size
    refine ⟨⟨mb, none, 0, [], hb, List.replicate pages 0⟩, rfl, rfl, rfl, fun r hr => (nomatch hr), rfl, rfl, ⟨?_, ⟨?_, ⟨rfl, Or.inl ⟨rfl, rfl⟩⟩, fun r hr => (nomatch hr), List.nodup_nil, ⟨rfl, ?_⟩, ?_, ?_⟩, (HF1.out.trans HF2.out).trans f23, fun k hk => ?_, fun k hk hx => ?_⟩⟩
    · rw [hx0]
      exact HR1.out.kept f23 (by simp) (by simp)
    · show w3.heap[mb]? = some (Obj.cells #[.slice none 0 0, .slice (some ⟨hb, 0, none⟩) (List.replicate pages (0 : Int)).length (List.replicate pages (0 : Int)).length] _)
      rw [List.length_replicate]
      exact hbn
    · show w3.heap[hb]? = some (Obj.cells ((List.replicate pages (0 : Int)).map (Value.int .i64 ·)).toArray 3)
      rw [ha3]
      simp
    · show w.heap.size ≤ mb
      omega
    · show w.heap.size ≤ hb
      omega
    · have := (hlt2 k hk).1
      omega
    · have h1 := (hlt2 k hx).2
      have hk' : k = mb ∨ k = hb := by simpa [Mo.own, Mo.tb, Value.ownBlock] using hk
      omega)
  have HX0 := hidI hx0
  clear ha hbn hsz fb f23 ha3 hw3 hlt2 hx0 hmk PX hhb HR1 HN1 HF1 HF2 k2
  go_loopw [9] (fun s9 wr => ∃ (j c : Nat) (a : Option Addr), s9 = .int .i64 (j : Int) ∧ j ≤ pages ∧ Hid (∃ m : Mo, m.mb = mb ∧ m.R.length = j ∧ m.hs = List.replicate pages 0 ∧ Zrows m.R ∧ m.ad = a ∧ m.c = c ∧ Pd w wr rg x0 m)) (fun i _ => pages - (intOf i).toNat)
  case atStart => exact ⟨0, 0, none, rfl, by omega, T0⟩
  case round =>
    obtain ⟨j, c, a, rfl, hj, HR⟩ := hrel
    clear T0
    by_cases hlt : j < pages
    · have q1 : (j : Int) < (pages : Int) := by omega
      obtain ⟨m2, hm1, hm2, hm3, hm4, hm5, hm6, P2⟩ := HR.out
      have HM := hidI (And.intro hm1 (And.intro hm2 (And.intro hm3 (And.intro hm4 (And.intro hm5 hm6)))))
      have HP := hidI P2
      clear hm1 hm2 hm3 hm4 hm5 hm6 P2 HR
      have hmk := run_mk512 wr.drew
      obtain ⟨z, hz⟩ : ∃ z, wr.heap.size = z := ⟨_, rfl⟩
      have KM : Hid (∀ w', Fr [] wr w' → w'.cell? ⟨mb, 0, none⟩ = some (.slice a j c)) := hidI (fun w' f => by
        have h1 := (HP.out.quiet f).mo.c0
        rw [HM.out.1, HM.out.2.1, HM.out.2.2.2.2.1, HM.out.2.2.2.2.2] at h1
        exact h1)
      have y0 := KM.out wr (Fr.refl _ _)
      have y1 := KM.out (wr.alloc (.cells (arr (zs 512)) 5)) ((Fr.refl [] wr).alloc _)
      have y2 := KM.out ((wr.alloc (.cells (arr (zs 512)) 5)).alloc (.cells #[.slice (some ⟨z, 0, none⟩) 512 512, .int .i64 0] 39)) (((Fr.refl [] wr).alloc _).alloc _)
      have y3 := KM.out (((wr.alloc (.cells (arr (zs 512)) 5)).alloc (.cells #[.slice (some ⟨z, 0, none⟩) 512 512, .int .i64 0] 39)).alloc (.cells #[.slice (some ⟨z + 1, 0, none⟩) 1 1] 40)) ((((Fr.refl [] wr).alloc _).alloc _).alloc _)
      obtain ⟨W3, hW3⟩ : ∃ W3, W3 = (((wr.alloc (.cells (arr (zs 512)) 5)).alloc (.cells #[.slice (some ⟨z, 0, none⟩) 512 512, .int .i64 0] 39)).alloc (.cells #[.slice (some ⟨z + 1, 0, none⟩) 1 1] 40)).drew := ⟨_, rfl⟩
      have HW3 := hidI hW3
      have F3 : Hid (Fr [] wr W3) := hidI (by
        rw [HW3.out]
        exact (((((Fr.refl [] wr).alloc _).alloc _).alloc _)).drew)
      have HB0 : Hid (W3.heap[z]? = some (.cells (arr (zs 512)) 5) ∧ W3.heap[z + 1]? = some (.cells #[.slice (some ⟨z, 0, none⟩) 512 512, .int .i64 0] 39) ∧ W3.heap[z + 2]? = some (.cells #[.slice (some ⟨z + 1, 0, none⟩) 1 1] 40) ∧ W3.heap.size = z + 3) := hidI (by
        have s1 : (wr.alloc (.cells (arr (zs 512)) 5)).heap.size = z + 1 := by simp [hz]
        have s2 : ((wr.alloc (.cells (arr (zs 512)) 5)).alloc (.cells #[.slice (some ⟨z, 0, none⟩) 512 512, .int .i64 0] 39)).heap.size = z + 2 := by simp [hz]
        have b1 := heap_alloc_new wr (.cells (arr (zs 512)) 5)
        have b2 := heap_alloc_new (wr.alloc (.cells (arr (zs 512)) 5)) (.cells #[.slice (some ⟨z, 0, none⟩) 512 512, .int .i64 0] 39)
        have b3 := heap_alloc_new ((wr.alloc (.cells (arr (zs 512)) 5)).alloc (.cells #[.slice (some ⟨z, 0, none⟩) 512 512, .int .i64 0] 39)) (.cells #[.slice (some ⟨z + 1, 0, none⟩) 1 1] 40)
        rw [hz] at b1
        rw [s1] at b2
        rw [s2] at b3
        rw [HW3.out]
        have g1 : Fr [] (wr.alloc (.cells (arr (zs 512)) 5)) (((wr.alloc (.cells (arr (zs 512)) 5)).alloc (.cells #[.slice (some ⟨z, 0, none⟩) 512 512, .int .i64 0] 39)).alloc (.cells #[.slice (some ⟨z + 1, 0, none⟩) 1 1] 40)).drew := ((((Fr.refl [] _).alloc _).alloc _)).drew
        have g2 : Fr [] ((wr.alloc (.cells (arr (zs 512)) 5)).alloc (.cells #[.slice (some ⟨z, 0, none⟩) 512 512, .int .i64 0] 39)) (((wr.alloc (.cells (arr (zs 512)) 5)).alloc (.cells #[.slice (some ⟨z, 0, none⟩) 512 512, .int .i64 0] 39)).alloc (.cells #[.slice (some ⟨z + 1, 0, none⟩) 1 1] 40)).drew := (((Fr.refl [] _).alloc _)).drew
        refine ⟨g1.same (by simp) b1, g2.same (by simp) b2, b3, ?_⟩
        show (((wr.alloc (.cells (arr (zs 512)) 5)).alloc (.cells #[.slice (some ⟨z, 0, none⟩) 512 512, .int .i64 0] 39)).alloc (.cells #[.slice (some ⟨z + 1, 0, none⟩) 1 1] 40)).heap.size = z + 3
        simp [hz])
      have HRW : Hid (RwAt w.heap.size W3 (zrow z)) := hidI (by
        have hs := HP.out.fr.size
        refine ⟨⟨rfl, Or.inr ⟨z + 1, 1, _, rfl, by omega, HB0.out.2.1, Nat.le_refl _, by unfold maxLen; omega, rfl, rfl⟩⟩, Nat.zero_lt_one, fun u hu => ?_⟩
        rw [List.mem_singleton.1 hu]
        have h1 := (show Blk W3 z (zs 512) from HB0.out.1).row
        rw [zs_length] at h1
        exact ⟨h1, zs_length 512, by show w.heap.size ≤ z; omega⟩)
      have AN : Hid (∀ (w8 : World) (g8 c8 : Nat), w8.ownsRow w.heap.size 40 1 (.slice (some ⟨g8, 0, none⟩) (m2.R ++ [(zrow z)]).length c8) (m2.R ++ [(zrow z)]).length ((m2.R ++ [(zrow z)]).map rwV) → Fr (Value.ownBlock (.slice a j c)).toList W3 w8 → NewOr a j c g8 W3.heap.size → (w8.cell? ⟨mb, 0, none⟩ = some (.slice a j c) ∧ w8.frozen? ⟨mb, 0, none⟩ = false) ∧ ∃ m : Mo, m.mb = mb ∧ m.R.length = j + 1 ∧ m.hs = List.replicate pages 0 ∧ Zrows m.R ∧ m.ad = some ⟨g8, 0, none⟩ ∧ m.c = c8 ∧ Pd w (w8.setCell ⟨mb, 0, none⟩ (.slice (some ⟨g8, 0, none⟩) (j + 1) c8)) rg x0 m) := hidI (fun w8 g8 c8 T8 f8 hg8 => by
        obtain ⟨e1, e2, e3, e4, e5, e6⟩ := HM.out
        have hs := HP.out.fr.size
        rw [← e5, ← e6, ← e2] at f8 hg8
        have A := HP.out.addR F3.out HRW.out (fun k hk => by
          have hk' : k = z + 1 ∨ k = z := by simpa [Rw.own, zrow] using hk
          omega) T8 f8 hg8
        rw [e1, e2, e5, e6] at A
        refine ⟨A.1, { mb := mb, ad := some ⟨g8, 0, none⟩, c := c8, R := m2.R ++ [zrow z], hb := m2.hb, hs := m2.hs }, rfl, by show (m2.R ++ [_]).length = j + 1; rw [List.length_append, e2]; rfl, e3, fun r hr => ?_, rfl, rfl, A.2⟩
        rcases List.mem_append.1 hr with h1 | h1
        · exact e4 r h1
        · rw [List.mem_singleton.1 h1]
          exact ⟨z, 512, rfl⟩)
      have TAB : Hid (W3.ownsRow w.heap.size 40 1 (.slice a m2.R.length c) m2.R.length (m2.R.map rwV)) := hidI (by
        have h1 := (HP.out.quiet F3.out).mo.tab
        rw [HM.out.2.2.2.2.1, HM.out.2.2.2.2.2] at h1
        exact h1)
      have HBS : Hid (w.heap.size ≤ W3.heap.size) := hidI (Nat.le_trans HP.out.fr.size F3.out.size)
      have HJ := hidI HM.out.2.1.symm
      clear hW3
      go_upto_region 14 with fail
      go_region_law ((first
        | (refine step_appRw rfl (.tmp 71) (.tmp 75) rfl w.heap.size a c m2.R j HJ.out (z + 2) (zrow z) rfl rfl (by have h9 := TAB.out; rw [HW3.out] at h9; exact h9) (by have h9 := HB0.out.2.2.1; rw [HW3.out] at h9; exact h9) (by have h9 := HBS.out; rw [HW3.out] at h9; exact h9) (by omega) ?_; intro g8 c8 w8 T8 f8 hg8; rw [← HW3.out] at f8 hg8; have XN := hidI (AN.out w8 g8 c8 T8 f8 hg8); have k8 := XN.out.1.1; have z8 := XN.out.1.2; clear T8 f8 hg8)))
      all_goals
        have e1 : IntKind.i64.wrap ((j : Int) + 1) = (j : Int) + 1 := wrapI _ (by omega) (by omega)
        go_wp2_with fail
        first
          | exact ⟨⟨j + 1, c8, some ⟨g8, 0, none⟩, by go_num, by omega, hidI XN.out.2⟩, by simp [intOf]; omega⟩
          | exact ⟨⟨j + 1, c8, some ⟨g8, 0, none⟩, by go_num, by omega, hidI (by obtain ⟨m3, x1, x2, x3, x4, x5, x6, x7⟩ := XN.out.2; exact ⟨m3, x1, x2, x3, x4, x5, x6, x7.quiet (Fr.refl [] _).drew⟩)⟩, by simp [intOf]; omega⟩
    · have q1 : ¬ (j : Int) < (pages : Int) := by omega
      have C0 : Hid (PdJ w wr rg mb pages most ((0 : Nat) : Int)) := hidI (by
        obtain ⟨m2, e1, e2, e3, e4, e5, e6, P⟩ := HR.out
        refine ⟨x0, m2, e1, P, ?_⟩
        rw [e3, HX0.out]
        exact iv_zero dd bs bo lp pp rp mp pages most m2.R (by omega) e4)
      clear HR hlt HX0
      go_wp2_with fail
      clear q1
      go_loopw [10] (fun s10 wr => ∃ k : Nat, s10 = .int .i64 (k : Int) ∧ k ≤ nL ∧ Hid (PdJ w wr rg mb pages most (k : Int))) (fun i _ => nL - (intOf i).toNat)
      case atStart => exact ⟨0, rfl, by omega, C0⟩
      case round =>
        obtain ⟨k, rfl, hk, HR2⟩ := hrel
        clear C0
        have FRw : Fr [] w wr := by
          obtain ⟨_, _, _, P, _⟩ := HR2.out
          exact P.fr
        by_cases hlt : k < nL
        · have q1 : (k : Int) < (nL : Int) := by omega
          have q2 : (0 : Int) ≤ (k : Int) := by omega
          obtain ⟨d, hd⟩ : ∃ d, L[k]? = some d := ⟨_, List.getElem?_eq_getElem (by have := HL.out; omega)⟩
          have okd := hidI (HD.out k d hd).1
          obtain ⟨db, doff, hadB, hc⟩ := deeds_cells HD.out hd
          subst hadB
          obtain ⟨c0, c1, c2, c3, c4, c5, c6, c7⟩ := hc wr FRw
          clear hc hd
          by_cases h2000 : 2000 < d.l2.length
          · have q3 : (2000 : Int) < (d.l2.length : Int) := by omega
            go_wp2_with fail
            go_ret
            exact ⟨rfl, FRw⟩
          · have q3 : ¬ (2000 : Int) < (d.l2.length : Int) := by omega
            obtain ⟨xk, mk, hmk, Pk, Ik⟩ := HR2.out
            have DX := pdoes_any Pk Ik (by omega) d okd.out (by omega) (by omega)
            rw [hmk] at DX
            unfold deedV at DX
            clear hmk Pk Ik
            go_upto_region 22 with (first
              | (go_at_call 18; refine DX.mono ?_; rintro e w5 ⟨rfl, P5⟩; obtain ⟨x5, m5, hm5, Y5, I5⟩ := P5.out; have HY := hidI Y5; have HI5 := hidI I5; have SX := stands_any Y5 I5 (by omega); rw [hm5] at SX; have HM5 := hidI hm5; clear Y5 I5 hm5)
              | (go_at_call 19; refine SX.mono ?_; rintro e w6 ⟨rfl, f6⟩; have p6 := (HY.out.quiet f6).p; have FRX := frames_any (HY.out.quiet f6).rig.po; have qf : ¬ (most : Int) < (x5.fs.length : Int) := (by have h1 := HY.out.rig.po.hl; have h2 := HI5.out.mo; omega); have F6 := hidI f6; clear f6)
              | (go_at_call 20; refine FRX.mono ?_; rintro e wz ⟨rfl, hz⟩; rw [hz]; clear hz))
            have DD := pdirty_any (HY.out.quiet F6.out).rig.po
            clear DX SX FRX qf c0 c1 c2 c3 c4 c5 c6 c7
            go_wp2_with (go_at_call 21; refine DD.mono ?_; rintro e w7 ⟨ad2, n2, c2, rfl, PDv⟩)
            obtain ⟨ds, D7, RI, hn2⟩ := PDv
            have HD7 := hidI D7
            have HRI := hidI RI
            clear D7 RI DD p6
            go_loopw [12] (fun s12 wr => ∃ i : Nat, s12 = .int .i64 (i : Int) ∧ i ≤ n2 ∧ Hid (Fr [] w7 wr)) (fun s _ => n2 - (intOf s).toNat)
            case atStart => exact ⟨0, rfl, by omega, hidI (Fr.refl [] w7)⟩
            case round =>
              obtain ⟨i, rfl, hi, FQ⟩ := hrel
              by_cases hin : i < n2
              · have i1 : (i : Int) < (n2 : Int) := by omega
                have i0 : (0 : Int) ≤ (i : Int) := by omega
                obtain ⟨gd, hgd⟩ := HD7.out.at (by omega)
                subst hgd
                obtain ⟨f, hf⟩ : ∃ f, ds[i]? = some f := ⟨_, List.getElem?_eq_getElem (by have := HD7.out.len; omega)⟩
                obtain ⟨z0, z1⟩ := HD7.out.cells FQ.out rfl hf
                have hfm := HRI.out.mem (List.mem_of_getElem? hf)
                have hfp : f.pg < pages := by
                  have h1 := (HY.out.rig.po.ok f hfm.1).pg
                  have h2 := HI5.out.pg
                  omega
                obtain ⟨r, hr⟩ : ∃ r, m5.R[f.pg]? = some r := ⟨_, List.getElem?_eq_getElem (by have := HI5.out.rl; omega)⟩
                obtain ⟨vn, hvn⟩ : ∃ vn, r.vs.length = vn := ⟨_, rfl⟩
                have h2v := (HI5.out.rc f.pg r hr).two ⟨f, hfm.1, rfl, hfm.2⟩
                rw [hvn] at h2v
                obtain ⟨tb, htb⟩ := HY.out.mo.at hr
                have XW := HY.out.quiet (F6.out.trans (HD7.out.fr.trans FQ.out))
                have f8 : Fr [] wr (wr.alloc (.cells #[.int .i64 (f.pg : Int), .int .i64 f.fst] 50)) := (Fr.refl [] wr).alloc _
                have b8 := heap_alloc_new wr (.cells #[.int .i64 (f.pg : Int), .int .i64 f.fst] 50)
                obtain ⟨xb, hxb⟩ : ∃ xb, wr.heap.size = xb := ⟨_, rfl⟩
                rw [hxb] at b8
                obtain ⟨w8, hw8⟩ : ∃ w8, wr.alloc (.cells #[.int .i64 (f.pg : Int), .int .i64 f.fst] 50) = w8 := ⟨_, rfl⟩
                rw [hw8] at f8 b8
                have x0c : w8.cell? ⟨xb, 0, none⟩ = some (.int .i64 (f.pg : Int)) := cell_of_row w8 xb 0 _ _ _ b8
                have x1c : w8.cell? ⟨xb, 1, none⟩ = some (.int .i64 f.fst) := cell_of_row w8 xb 1 _ _ _ b8
                have Z := XW.rdm hr htb hvn f8
                have m0 : w8.cell? ⟨mb, 0, none⟩ = some (.slice (some ⟨tb, 0, none⟩) pages m5.c) := by
                  rw [← HM5.out, ← HI5.out.rl]
                  exact Z.m0
                have t0 : w8.cell? ⟨tb, f.pg, none⟩ = some (.slice (some ⟨r.g, 0, none⟩) vn r.c) := Z.t
                have F8 := hidI (FQ.out.trans f8)
                have d1 : ¬ (f.pg : Int) < 0 := by omega
                have d2 : ¬ (pages : Int) ≤ (f.pg : Int) := by omega
                have d2b : (f.pg : Int) < (pages : Int) := by omega
                have d2c : (0 : Int) ≤ (f.pg : Int) := by omega
                have d3 : ¬ f.fst < 1 := by omega
                have d4 : ¬ (vn : Int) < 2 := by omega
                by_cases hi0 : 0 < i
                · obtain ⟨g, hg⟩ : ∃ g, ds[i - 1]? = some g := ⟨_, List.getElem?_eq_getElem (by have := HD7.out.len; omega)⟩
                  have hlt2 := HRI.out.lt HI5.out.nod hg (by have e : i - 1 + 1 = i := by omega
                                                             rw [e]; exact hf) HY.out.rig.po.rn.nod
                  have y0 := (HD7.out.cells F8.out rfl hg).1
                  have d5 : (0 : Int) < (i : Int) := by omega
                  have d6 : ¬ (f.pg : Int) ≤ (g.pg : Int) := by omega
                  have e1 : IntKind.i64.wrap ((i : Int) - 1) = ((i - 1 : Nat) : Int) := by
                    rw [wrapI _ (by omega) (by omega)]
                    omega
                  have e2 : ((i - 1 : Nat) : Int) < (n2 : Int) := by omega
                  have e3 : (0 : Int) ≤ ((i - 1 : Nat) : Int) := by omega
                  have KZ : Hid (∀ w', Fr [] w8 w' → w'.cell? ⟨xb, 0, none⟩ = some (.int .i64 (f.pg : Int)) ∧ w'.cell? ⟨xb, 1, none⟩ = some (.int .i64 f.fst) ∧ w'.cell? ⟨mb, 0, none⟩ = some (.slice (some ⟨tb, 0, none⟩) pages m5.c) ∧ w'.cell? ⟨tb, f.pg, none⟩ = some (.slice (some ⟨r.g, 0, none⟩) vn r.c) ∧ w'.cell? ⟨gd, (i - 1) * 2, none⟩ = some (.int .i64 (g.pg : Int))) := hidI (fun w' f9 => by
                    have b9 := f9.same (by simp) b8
                    have Z9 := XW.rdm hr htb hvn (f8.trans f9)
                    refine ⟨cell_of_row w' xb 0 _ _ _ b9, cell_of_row w' xb 1 _ _ _ b9, ?_, Z9.t, (HD7.out.cells (F8.out.trans f9) rfl hg).1⟩
                    rw [← HM5.out, ← HI5.out.rl]
                    exact Z9.m0)
                  clear hf hg hr hvn htb hfm hfp h2v XW Z b8 f8 hlt2 hi0
                  go_upto_region 27 with fail
                  have g1 : decide ((f.pg : Int) < 0) = false := decide_eq_false (by omega)
                  have g2 : decide ((pages : Int) ≤ (f.pg : Int)) = false := decide_eq_false (by omega)
                  have g3 : decide (f.fst < 1) = false := decide_eq_false (by omega)
                  have g4 : decide ((vn : Int) < 2) = false := decide_eq_false (by omega)
                  have g5 : decide ((0 : Int) < (i : Int)) = true := decide_eq_true (by omega)
                  have g6 : decide ((f.pg : Int) ≤ (g.pg : Int)) = false := decide_eq_false (by omega)
                  have n2' : (pages ≤ f.pg) = False := eq_false (by omega)
                  have n4' : (vn < 2) = False := eq_false (by omega)
                  have n5' : (0 < i) = True := eq_true (by omega)
                  have n6' : (f.pg ≤ g.pg) = False := eq_false (by omega)
                  clear d1 d2 d3 d4 d5 d6
                  refine wp_region_held_drew (S := fun w' => Fr [] w8 w') (by kernel_rfl) (Fr.refl [] w8).drew (fun hHeld => ?_)
                  refine wpAnyH_take (i := 0) (v := ?_) rfl (by kernel_rfl) (by kernel_rfl) (by kernel_rfl) (fun _ _ _ h => h) (Or.inl ⟨by kernel_rfl, ?_⟩) hHeld ?_
                  rotate_left
                  · intro w' hSw
                    go_simp
                    try with_reducible rfl
                  try simp only [Act.put, List.getElem_toArray, List.getElem_cons_zero, List.setIfInBounds_toArray, List.set_cons_zero, List.set_cons_succ]
                  refine wpAnyH_take (i := 1) (v := ?_) rfl (by kernel_rfl) (by kernel_rfl) (by kernel_rfl) (fun _ _ _ h => h) (Or.inl ⟨by kernel_rfl, ?_⟩) hHeld ?_
                  rotate_left
                  · intro w' hSw
                    obtain ⟨y0, y1, y2, y3, y4⟩ := KZ.out w' hSw
                    go_simp
                    try with_reducible rfl
                  try simp only [Act.put, List.getElem_toArray, List.getElem_cons_succ, List.getElem_cons_zero, List.setIfInBounds_toArray, List.set_cons_zero, List.set_cons_succ]
                  refine wpAnyH_take (i := 2) (v := ?_) rfl (by kernel_rfl) (by kernel_rfl) (by kernel_rfl) (fun _ _ _ h => h) (Or.inl ⟨by kernel_rfl, ?_⟩) hHeld ?_
                  rotate_left
                  · intro w' hSw
                    go_simp
                    try with_reducible rfl
                  try simp only [Act.put, List.getElem_toArray, List.getElem_cons_succ, List.getElem_cons_zero, List.setIfInBounds_toArray, List.set_cons_zero, List.set_cons_succ]
                  refine wpAnyH_take (i := 3) (v := ?_) rfl (by kernel_rfl) (by kernel_rfl) (by kernel_rfl) (fun _ _ _ h => h) (Or.inl ⟨by kernel_rfl, ?_⟩) hHeld ?_
                  rotate_left
                  · intro w' hSw
                    go_simp
                    try with_reducible rfl
                  try simp only [Act.put, List.getElem_toArray, List.getElem_cons_succ, List.getElem_cons_zero, List.setIfInBounds_toArray, List.set_cons_zero, List.set_cons_succ]
                  refine wpAnyH_take (i := 4) (v := ?_) rfl (by kernel_rfl) (by kernel_rfl) (by kernel_rfl) (fun _ _ _ h => h) (Or.inl ⟨by kernel_rfl, ?_⟩) hHeld ?_
                  rotate_left
                  · intro w' hSw
                    go_simp
                    try with_reducible rfl
                  try simp only [Act.put, List.getElem_toArray, List.getElem_cons_succ, List.getElem_cons_zero, List.setIfInBounds_toArray, List.set_cons_zero, List.set_cons_succ]
                  refine wpAnyH_take (i := 5) (v := ?_) rfl (by kernel_rfl) (by kernel_rfl) (by kernel_rfl) (fun _ _ _ h => h) (Or.inl ⟨by kernel_rfl, ?_⟩) hHeld ?_
                  rotate_left
                  · intro w' hSw
                    obtain ⟨y0, y1, y2, y3, y4⟩ := KZ.out w' hSw
                    go_simp
                    try with_reducible rfl
                  try simp only [Act.put, List.getElem_toArray, List.getElem_cons_succ, List.getElem_cons_zero, List.setIfInBounds_toArray, List.set_cons_zero, List.set_cons_succ]
                  refine wpAnyH_take (i := 6) (v := ?_) rfl (by kernel_rfl) (by kernel_rfl) (by kernel_rfl) (fun _ _ _ h => h) (Or.inl ⟨by kernel_rfl, ?_⟩) hHeld ?_
                  rotate_left
                  · intro w' hSw
                    go_simp
                    try with_reducible rfl
                  try simp only [Act.put, List.getElem_toArray, List.getElem_cons_succ, List.getElem_cons_zero, List.setIfInBounds_toArray, List.set_cons_zero, List.set_cons_succ]
                  refine wpAnyH_take (i := 7) (v := ?_) rfl (by kernel_rfl) (by kernel_rfl) (by kernel_rfl) (fun _ _ _ h => h) (Or.inl ⟨by kernel_rfl, ?_⟩) hHeld ?_
                  rotate_left
                  · intro w' hSw
                    go_simp
                    try with_reducible rfl
                  try simp only [Act.put, List.getElem_toArray, List.getElem_cons_succ, List.getElem_cons_zero, List.setIfInBounds_toArray, List.set_cons_zero, List.set_cons_succ]
                  refine wpAnyH_take (i := 8) (v := ?_) rfl (by kernel_rfl) (by kernel_rfl) (by kernel_rfl) (fun _ _ _ h => h) (Or.inl ⟨by kernel_rfl, ?_⟩) hHeld ?_
                  rotate_left
                  · intro w' hSw
                    go_simp
                    try with_reducible rfl
                  try simp only [Act.put, List.getElem_toArray, List.getElem_cons_succ, List.getElem_cons_zero, List.setIfInBounds_toArray, List.set_cons_zero, List.set_cons_succ]
                  refine wpAnyH_take (i := 9) (v := ?_) rfl (by kernel_rfl) (by kernel_rfl) (by kernel_rfl) (fun _ _ _ h => h) (Or.inl ⟨by kernel_rfl, ?_⟩) hHeld ?_
                  rotate_left
                  · intro w' hSw
                    go_simp
                    try with_reducible rfl
                  try simp only [Act.put, List.getElem_toArray, List.getElem_cons_succ, List.getElem_cons_zero, List.setIfInBounds_toArray, List.set_cons_zero, List.set_cons_succ]
                  refine wpAnyH_take (i := 10) (v := ?_) rfl (by kernel_rfl) (by kernel_rfl) (by kernel_rfl) (fun _ _ _ h => h) (Or.inl ⟨by kernel_rfl, ?_⟩) hHeld ?_
                  rotate_left
                  · intro w' hSw
                    go_simp
                    try with_reducible rfl
                  try simp only [Act.put, List.getElem_toArray, List.getElem_cons_succ, List.getElem_cons_zero, List.setIfInBounds_toArray, List.set_cons_zero, List.set_cons_succ]
                  refine wpAnyH_take (i := 11) (v := ?_) rfl (by kernel_rfl) (by kernel_rfl) (by kernel_rfl) (fun _ _ _ h => h) (Or.inl ⟨by kernel_rfl, ?_⟩) hHeld ?_
                  rotate_left
                  · intro w' hSw
                    go_simp
                    try with_reducible rfl
                  try simp only [Act.put, List.getElem_toArray, List.getElem_cons_succ, List.getElem_cons_zero, List.setIfInBounds_toArray, List.set_cons_zero, List.set_cons_succ]
                  refine wpAnyH_take (i := 12) (v := ?_) rfl (by kernel_rfl) (by kernel_rfl) (by kernel_rfl) (fun _ _ _ h => h) (Or.inl ⟨by kernel_rfl, ?_⟩) hHeld ?_
                  rotate_left
                  · intro w' hSw
                    go_simp
                    try with_reducible rfl
                  try simp only [Act.put, List.getElem_toArray, List.getElem_cons_succ, List.getElem_cons_zero, List.setIfInBounds_toArray, List.set_cons_zero, List.set_cons_succ]
                  refine wpAnyH_take (i := 13) (v := ?_) rfl (by kernel_rfl) (by kernel_rfl) (by kernel_rfl) (fun _ _ _ h => h) (Or.inl ⟨by kernel_rfl, ?_⟩) hHeld ?_
                  rotate_left
                  · intro w' hSw
                    go_simp
                    try with_reducible rfl
                  try simp only [Act.put, List.getElem_toArray, List.getElem_cons_succ, List.getElem_cons_zero, List.setIfInBounds_toArray, List.set_cons_zero, List.set_cons_succ]
                  refine wpAnyH_take (i := 14) (v := ?_) rfl (by kernel_rfl) (by kernel_rfl) (by kernel_rfl) (fun _ _ _ h => h) (Or.inl ⟨by kernel_rfl, ?_⟩) hHeld ?_
                  rotate_left
                  · intro w' hSw
                    obtain ⟨y0, y1, y2, y3, y4⟩ := KZ.out w' hSw
                    go_simp
                    try with_reducible rfl
                  try simp only [Act.put, List.getElem_toArray, List.getElem_cons_succ, List.getElem_cons_zero, List.setIfInBounds_toArray, List.set_cons_zero, List.set_cons_succ]
                  refine wpAnyH_take (i := 15) (v := ?_) rfl (by kernel_rfl) (by kernel_rfl) (by kernel_rfl) (fun _ _ _ h => h) (Or.inl ⟨by kernel_rfl, ?_⟩) hHeld ?_
                  rotate_left
                  · intro w' hSw
                    go_simp
                    try with_reducible rfl
                  try simp only [Act.put, List.getElem_toArray, List.getElem_cons_succ, List.getElem_cons_zero, List.setIfInBounds_toArray, List.set_cons_zero, List.set_cons_succ]
                  refine wpAnyH_take (i := 16) (v := ?_) rfl (by kernel_rfl) (by kernel_rfl) (by kernel_rfl) (fun _ _ _ h => h) (Or.inl ⟨by kernel_rfl, ?_⟩) hHeld ?_
                  rotate_left
                  · intro w' hSw
                    go_simp
                    try with_reducible rfl
                  try simp only [Act.put, List.getElem_toArray, List.getElem_cons_succ, List.getElem_cons_zero, List.setIfInBounds_toArray, List.set_cons_zero, List.set_cons_succ]
                  refine wpAnyH_take (i := 17) (v := ?_) rfl (by kernel_rfl) (by kernel_rfl) (by kernel_rfl) (fun _ _ _ h => h) (Or.inl ⟨by kernel_rfl, ?_⟩) hHeld ?_
                  rotate_left
                  · intro w' hSw
                    go_simp
                    try with_reducible rfl
                  try simp only [Act.put, List.getElem_toArray, List.getElem_cons_succ, List.getElem_cons_zero, List.setIfInBounds_toArray, List.set_cons_zero, List.set_cons_succ]
                  refine wpAnyH_take (i := 18) (v := ?_) rfl (by kernel_rfl) (by kernel_rfl) (by kernel_rfl) (fun _ _ _ h => h) (Or.inl ⟨by kernel_rfl, ?_⟩) hHeld ?_
                  rotate_left
                  · intro w' hSw
                    go_simp
                    try with_reducible rfl
                  try simp only [Act.put, List.getElem_toArray, List.getElem_cons_succ, List.getElem_cons_zero, List.setIfInBounds_toArray, List.set_cons_zero, List.set_cons_succ]
                  refine wpAnyH_take (i := 19) (v := ?_) rfl (by kernel_rfl) (by kernel_rfl) (by kernel_rfl) (fun _ _ _ h => h) (Or.inl ⟨by kernel_rfl, ?_⟩) hHeld ?_
                  rotate_left
                  · intro w' hSw
                    go_simp
                    try with_reducible rfl
                  try simp only [Act.put, List.getElem_toArray, List.getElem_cons_succ, List.getElem_cons_zero, List.setIfInBounds_toArray, List.set_cons_zero, List.set_cons_succ]
                  refine wpAnyH_take (i := 20) (v := ?_) rfl (by kernel_rfl) (by kernel_rfl) (by kernel_rfl) (fun _ _ _ h => h) (Or.inl ⟨by kernel_rfl, ?_⟩) hHeld ?_
                  rotate_left
                  · intro w' hSw
                    obtain ⟨y0, y1, y2, y3, y4⟩ := KZ.out w' hSw
                    go_simp
                    try with_reducible rfl
                  try simp only [Act.put, List.getElem_toArray, List.getElem_cons_succ, List.getElem_cons_zero, List.setIfInBounds_toArray, List.set_cons_zero, List.set_cons_succ]
                  refine wpAnyH_take (i := 21) (v := ?_) rfl (by kernel_rfl) (by kernel_rfl) (by kernel_rfl) (fun _ _ _ h => h) (Or.inl ⟨by kernel_rfl, ?_⟩) hHeld ?_
                  rotate_left
                  · intro w' hSw
                    go_simp
                    try with_reducible rfl
                  try simp only [Act.put, List.getElem_toArray, List.getElem_cons_succ, List.getElem_cons_zero, List.setIfInBounds_toArray, List.set_cons_zero, List.set_cons_succ]
                  refine wpAnyH_take (i := 22) (v := ?_) rfl (by kernel_rfl) (by kernel_rfl) (by kernel_rfl) (fun _ _ _ h => h) (Or.inl ⟨by kernel_rfl, ?_⟩) hHeld ?_
                  rotate_left
                  · intro w' hSw
                    go_simp
                    try with_reducible rfl
                  try simp only [Act.put, List.getElem_toArray, List.getElem_cons_succ, List.getElem_cons_zero, List.setIfInBounds_toArray, List.set_cons_zero, List.set_cons_succ]
                  refine wpAnyH_take (i := 23) (v := ?_) rfl (by kernel_rfl) (by kernel_rfl) (by kernel_rfl) (fun _ _ _ h => h) (Or.inl ⟨by kernel_rfl, ?_⟩) hHeld ?_
                  rotate_left
                  · intro w' hSw
                    go_simp
                    try with_reducible rfl
                  try simp only [Act.put, List.getElem_toArray, List.getElem_cons_succ, List.getElem_cons_zero, List.setIfInBounds_toArray, List.set_cons_zero, List.set_cons_succ]
                  refine wpAnyH_take (i := 24) (v := ?_) rfl (by kernel_rfl) (by kernel_rfl) (by kernel_rfl) (fun _ _ _ h => h) (Or.inl ⟨by kernel_rfl, ?_⟩) hHeld ?_
                  rotate_left
                  · intro w' hSw
                    go_simp
                    try with_reducible rfl
                  try simp only [Act.put, List.getElem_toArray, List.getElem_cons_succ, List.getElem_cons_zero, List.setIfInBounds_toArray, List.set_cons_zero, List.set_cons_succ]
                  refine wpAnyH_take (i := 25) (v := ?_) rfl (by kernel_rfl) (by kernel_rfl) (by kernel_rfl) (fun _ _ _ h => h) (Or.inl ⟨by kernel_rfl, ?_⟩) hHeld ?_
                  rotate_left
                  · intro w' hSw
                    go_simp
                    try with_reducible rfl
                  try simp only [Act.put, List.getElem_toArray, List.getElem_cons_succ, List.getElem_cons_zero, List.setIfInBounds_toArray, List.set_cons_zero, List.set_cons_succ]
                  refine wpAnyH_take (i := 26) (v := ?_) rfl (by kernel_rfl) (by kernel_rfl) (by kernel_rfl) (fun _ _ _ h => h) (Or.inl ⟨by kernel_rfl, ?_⟩) hHeld ?_
                  rotate_left
                  · intro w' hSw
                    obtain ⟨y0, y1, y2, y3, y4⟩ := KZ.out w' hSw
                    go_simp
                    try with_reducible rfl
                  try simp only [Act.put, List.getElem_toArray, List.getElem_cons_succ, List.getElem_cons_zero, List.setIfInBounds_toArray, List.set_cons_zero, List.set_cons_succ]
                  refine wpAnyH_take (i := 27) (v := ?_) rfl (by kernel_rfl) (by kernel_rfl) (by kernel_rfl) (fun _ _ _ h => h) (Or.inl ⟨by kernel_rfl, ?_⟩) hHeld ?_
                  rotate_left
                  · intro w' hSw
                    go_simp
                    try with_reducible rfl
                  try simp only [Act.put, List.getElem_toArray, List.getElem_cons_succ, List.getElem_cons_zero, List.setIfInBounds_toArray, List.set_cons_zero, List.set_cons_succ]
                  refine wpAnyH_take (i := 28) (v := ?_) rfl (by kernel_rfl) (by kernel_rfl) (by kernel_rfl) (fun _ _ _ h => h) (Or.inl ⟨by kernel_rfl, ?_⟩) hHeld ?_
                  rotate_left
                  · intro w' hSw
                    go_simp
                    try with_reducible rfl
                  try simp only [Act.put, List.getElem_toArray, List.getElem_cons_succ, List.getElem_cons_zero, List.setIfInBounds_toArray, List.set_cons_zero, List.set_cons_succ]
                  refine wpAnyH_take (i := 29) (v := ?_) rfl (by kernel_rfl) (by kernel_rfl) (by kernel_rfl) (fun _ _ _ h => h) (Or.inl ⟨by kernel_rfl, ?_⟩) hHeld ?_
                  rotate_left
                  · intro w' hSw
                    go_simp
                    try with_reducible rfl
                  try simp only [Act.put, List.getElem_toArray, List.getElem_cons_succ, List.getElem_cons_zero, List.setIfInBounds_toArray, List.set_cons_zero, List.set_cons_succ]
                  refine wpAnyH_take (i := 30) (v := ?_) rfl (by kernel_rfl) (by kernel_rfl) (by kernel_rfl) (fun _ _ _ h => h) (Or.inl ⟨by kernel_rfl, ?_⟩) hHeld ?_
                  rotate_left
                  · intro w' hSw
                    go_simp
                    try with_reducible rfl
                  try simp only [Act.put, List.getElem_toArray, List.getElem_cons_succ, List.getElem_cons_zero, List.setIfInBounds_toArray, List.set_cons_zero, List.set_cons_succ]
                  refine wpAnyH_take (i := 31) (v := ?_) rfl (by kernel_rfl) (by kernel_rfl) (by kernel_rfl) (fun _ _ _ h => h) (Or.inl ⟨by kernel_rfl, ?_⟩) hHeld ?_
                  rotate_left
                  · intro w' hSw
                    go_simp
                    try with_reducible rfl
                  try simp only [Act.put, List.getElem_toArray, List.getElem_cons_succ, List.getElem_cons_zero, List.setIfInBounds_toArray, List.set_cons_zero, List.set_cons_succ]
                  refine wpAnyH_take (i := 32) (v := ?_) rfl (by kernel_rfl) (by kernel_rfl) (by kernel_rfl) (fun _ _ _ h => h) (Or.inl ⟨by kernel_rfl, ?_⟩) hHeld ?_
                  rotate_left
                  · intro w' hSw
                    go_simp
                    try with_reducible rfl
                  try simp only [Act.put, List.getElem_toArray, List.getElem_cons_succ, List.getElem_cons_zero, List.setIfInBounds_toArray, List.set_cons_zero, List.set_cons_succ]
                  refine wpAnyH_take (i := 33) (v := ?_) rfl (by kernel_rfl) (by kernel_rfl) (by kernel_rfl) (fun _ _ _ h => h) (Or.inl ⟨by kernel_rfl, ?_⟩) hHeld ?_
                  rotate_left
                  · intro w' hSw
                    obtain ⟨y0, y1, y2, y3, y4⟩ := KZ.out w' hSw
                    go_simp
                    try with_reducible rfl
                  try simp only [Act.put, List.getElem_toArray, List.getElem_cons_succ, List.getElem_cons_zero, List.setIfInBounds_toArray, List.set_cons_zero, List.set_cons_succ]
                  refine wpAnyH_take (i := 34) (v := ?_) rfl (by kernel_rfl) (by kernel_rfl) (by kernel_rfl) (fun _ _ _ h => h) (Or.inl ⟨by kernel_rfl, ?_⟩) hHeld ?_
                  rotate_left
                  · intro w' hSw
                    go_simp
                    try with_reducible rfl
                  try simp only [Act.put, List.getElem_toArray, List.getElem_cons_succ, List.getElem_cons_zero, List.setIfInBounds_toArray, List.set_cons_zero, List.set_cons_succ]
                  refine wpAnyH_take (i := 35) (v := ?_) rfl (by kernel_rfl) (by kernel_rfl) (by kernel_rfl) (fun _ _ _ h => h) (Or.inl ⟨by kernel_rfl, ?_⟩) hHeld ?_
                  rotate_left
                  · intro w' hSw
                    obtain ⟨y0, y1, y2, y3, y4⟩ := KZ.out w' hSw
                    go_simp
                    try with_reducible rfl
                  try simp only [Act.put, List.getElem_toArray, List.getElem_cons_succ, List.getElem_cons_zero, List.setIfInBounds_toArray, List.set_cons_zero, List.set_cons_succ]
                  refine wpAnyH_take (i := 36) (v := ?_) rfl (by kernel_rfl) (by kernel_rfl) (by kernel_rfl) (fun _ _ _ h => h) (Or.inl ⟨by kernel_rfl, ?_⟩) hHeld ?_
                  rotate_left
                  · intro w' hSw
                    go_simp
                    try with_reducible rfl
                  try simp only [Act.put, List.getElem_toArray, List.getElem_cons_succ, List.getElem_cons_zero, List.setIfInBounds_toArray, List.set_cons_zero, List.set_cons_succ]
                  refine wpAnyH_take (i := 37) (v := ?_) rfl (by kernel_rfl) (by kernel_rfl) (by kernel_rfl) (fun _ _ _ h => h) (Or.inl ⟨by kernel_rfl, ?_⟩) hHeld ?_
                  rotate_left
                  · intro w' hSw
                    obtain ⟨y0, y1, y2, y3, y4⟩ := KZ.out w' hSw
                    go_simp
                    try with_reducible rfl
                  try simp only [Act.put, List.getElem_toArray, List.getElem_cons_succ, List.getElem_cons_zero, List.setIfInBounds_toArray, List.set_cons_zero, List.set_cons_succ]
                  refine wpAnyH_take (i := 38) (v := ?_) rfl (by kernel_rfl) (by kernel_rfl) (by kernel_rfl) (fun _ _ _ h => h) (Or.inl ⟨by kernel_rfl, ?_⟩) hHeld ?_
                  rotate_left
                  · intro w' hSw
                    go_simp
                    try with_reducible rfl
                  try simp only [Act.put, List.getElem_toArray, List.getElem_cons_succ, List.getElem_cons_zero, List.setIfInBounds_toArray, List.set_cons_zero, List.set_cons_succ]
                  refine wpAnyH_take (i := 39) (v := ?_) rfl (by kernel_rfl) (by kernel_rfl) (by kernel_rfl) (fun _ _ _ h => h) (Or.inl ⟨by kernel_rfl, ?_⟩) hHeld ?_
                  rotate_left
                  · intro w' hSw
                    go_simp
                    try with_reducible rfl
                  try simp only [Act.put, List.getElem_toArray, List.getElem_cons_succ, List.getElem_cons_zero, List.setIfInBounds_toArray, List.set_cons_zero, List.set_cons_succ]
                  refine wpAnyH_take (i := 40) (v := ?_) rfl (by kernel_rfl) (by kernel_rfl) (by kernel_rfl) (fun _ _ _ h => h) (Or.inl ⟨by kernel_rfl, ?_⟩) hHeld ?_
                  rotate_left
                  · intro w' hSw
                    go_simp
                    try with_reducible rfl
                  try simp only [Act.put, List.getElem_toArray, List.getElem_cons_succ, List.getElem_cons_zero, List.setIfInBounds_toArray, List.set_cons_zero, List.set_cons_succ]
                  refine wpAnyH_take (i := 41) (v := undef) rfl (by kernel_rfl) (by kernel_rfl) (by kernel_rfl) (fun _ _ _ h => h) (Or.inr ⟨by kernel_rfl, rfl⟩) hHeld ?_
                  try simp only [Act.put, List.getElem_toArray, List.getElem_cons_succ, List.getElem_cons_zero, List.setIfInBounds_toArray, List.set_cons_zero, List.set_cons_succ]
                  refine wpAnyH_take (i := 42) (v := undef) rfl (by kernel_rfl) (by kernel_rfl) (by kernel_rfl) (fun _ _ _ h => h) (Or.inr ⟨by kernel_rfl, rfl⟩) hHeld ?_
                  try simp only [Act.put, List.getElem_toArray, List.getElem_cons_succ, List.getElem_cons_zero, List.setIfInBounds_toArray, List.set_cons_zero, List.set_cons_succ]
                  refine wpAnyH_take (i := 43) (v := undef) rfl (by kernel_rfl) (by kernel_rfl) (by kernel_rfl) (fun _ _ _ h => h) (Or.inr ⟨by kernel_rfl, rfl⟩) hHeld ?_
                  try simp only [Act.put, List.getElem_toArray, List.getElem_cons_succ, List.getElem_cons_zero, List.setIfInBounds_toArray, List.set_cons_zero, List.set_cons_succ]
                  refine wpAnyH_take (i := 44) (v := undef) rfl (by kernel_rfl) (by kernel_rfl) (by kernel_rfl) (fun _ _ _ h => h) (Or.inr ⟨by kernel_rfl, rfl⟩) hHeld ?_
                  try simp only [Act.put, List.getElem_toArray, List.getElem_cons_succ, List.getElem_cons_zero, List.setIfInBounds_toArray, List.set_cons_zero, List.set_cons_succ]
                  refine wpAnyH_take (i := 45) (v := undef) rfl (by kernel_rfl) (by kernel_rfl) (by kernel_rfl) (fun _ _ _ h => h) (Or.inr ⟨by kernel_rfl, rfl⟩) hHeld ?_
                  try simp only [Act.put, List.getElem_toArray, List.getElem_cons_succ, List.getElem_cons_zero, List.setIfInBounds_toArray, List.set_cons_zero, List.set_cons_succ]
                  refine wpAnyH_take (i := 46) (v := undef) rfl (by kernel_rfl) (by kernel_rfl) (by kernel_rfl) (fun _ _ _ h => h) (Or.inr ⟨by kernel_rfl, rfl⟩) hHeld ?_
                  try simp only [Act.put, List.getElem_toArray, List.getElem_cons_succ, List.getElem_cons_zero, List.setIfInBounds_toArray, List.set_cons_zero, List.set_cons_succ]
                  refine wpAnyH_take (i := 47) (v := undef) rfl (by kernel_rfl) (by kernel_rfl) (by kernel_rfl) (fun _ _ _ h => h) (Or.inr ⟨by kernel_rfl, rfl⟩) hHeld ?_
                  try simp only [Act.put, List.getElem_toArray, List.getElem_cons_succ, List.getElem_cons_zero, List.setIfInBounds_toArray, List.set_cons_zero, List.set_cons_succ]
                  refine wpAnyH_take (i := 48) (v := undef) rfl (by kernel_rfl) (by kernel_rfl) (by kernel_rfl) (fun _ _ _ h => h) (Or.inr ⟨by kernel_rfl, rfl⟩) hHeld ?_
                  try simp only [Act.put, List.getElem_toArray, List.getElem_cons_succ, List.getElem_cons_zero, List.setIfInBounds_toArray, List.set_cons_zero, List.set_cons_succ]
                  refine wpAnyH_take (i := 49) (v := undef) rfl (by kernel_rfl) (by kernel_rfl) (by kernel_rfl) (fun _ _ _ h => h) (Or.inr ⟨by kernel_rfl, rfl⟩) hHeld ?_
                  try simp only [Act.put, List.getElem_toArray, List.getElem_cons_succ, List.getElem_cons_zero, List.setIfInBounds_toArray, List.set_cons_zero, List.set_cons_succ]
                  refine wpAnyH_take (i := 50) (v := undef) rfl (by kernel_rfl) (by kernel_rfl) (by kernel_rfl) (fun _ _ _ h => h) (Or.inr ⟨by kernel_rfl, rfl⟩) hHeld ?_
                  try simp only [Act.put, List.getElem_toArray, List.getElem_cons_succ, List.getElem_cons_zero, List.setIfInBounds_toArray, List.set_cons_zero, List.set_cons_succ]
                  refine wpAnyH_take (i := 51) (v := undef) rfl (by kernel_rfl) (by kernel_rfl) (by kernel_rfl) (fun _ _ _ h => h) (Or.inr ⟨by kernel_rfl, rfl⟩) hHeld ?_
                  try simp only [Act.put, List.getElem_toArray, List.getElem_cons_succ, List.getElem_cons_zero, List.setIfInBounds_toArray, List.set_cons_zero, List.set_cons_succ]
                  refine wpAnyH_take (i := 52) (v := undef) rfl (by kernel_rfl) (by kernel_rfl) (by kernel_rfl) (fun _ _ _ h => h) (Or.inr ⟨by kernel_rfl, rfl⟩) hHeld ?_
                  try simp only [Act.put, List.getElem_toArray, List.getElem_cons_succ, List.getElem_cons_zero, List.setIfInBounds_toArray, List.set_cons_zero, List.set_cons_succ]
                  refine wpAnyH_take (i := 53) (v := ?_) rfl (by kernel_rfl) (by kernel_rfl) (by kernel_rfl) (fun _ _ _ h => h) (Or.inl ⟨by kernel_rfl, ?_⟩) hHeld ?_
                  rotate_left
                  · intro w' hSw
                    go_simp
                    try with_reducible rfl
                  try simp only [Act.put, List.getElem_toArray, List.getElem_cons_succ, List.getElem_cons_zero, List.setIfInBounds_toArray, List.set_cons_zero, List.set_cons_succ]
                  refine wpAnyH_take (i := 54) (v := ?_) rfl (by kernel_rfl) (by kernel_rfl) (by kernel_rfl) (fun _ _ _ h => h) (Or.inl ⟨by kernel_rfl, ?_⟩) hHeld ?_
                  rotate_left
                  · intro w' hSw
                    go_simp
                    try with_reducible rfl
                  try simp only [Act.put, List.getElem_toArray, List.getElem_cons_succ, List.getElem_cons_zero, List.setIfInBounds_toArray, List.set_cons_zero, List.set_cons_succ]
                  refine wpAnyH_done (by kernel_rfl) ?_ _
                  go_wp2_with fail
                  exact ⟨⟨i + 1, by go_num, by omega, hidI F8.out.drew⟩, by simp [intOf]; omega⟩
                · have d5 : ¬ (0 : Int) < (i : Int) := by omega
                  have KZ : Hid (∀ w', Fr [] w8 w' → w'.cell? ⟨xb, 0, none⟩ = some (.int .i64 (f.pg : Int)) ∧ w'.cell? ⟨xb, 1, none⟩ = some (.int .i64 f.fst) ∧ w'.cell? ⟨mb, 0, none⟩ = some (.slice (some ⟨tb, 0, none⟩) pages m5.c) ∧ w'.cell? ⟨tb, f.pg, none⟩ = some (.slice (some ⟨r.g, 0, none⟩) vn r.c)) := hidI (fun w' f9 => by
                    have b9 := f9.same (by simp) b8
                    have Z9 := XW.rdm hr htb hvn (f8.trans f9)
                    refine ⟨cell_of_row w' xb 0 _ _ _ b9, cell_of_row w' xb 1 _ _ _ b9, ?_, Z9.t⟩
                    rw [← HM5.out, ← HI5.out.rl]
                    exact Z9.m0)
                  clear hf hr hvn htb hfm hfp h2v XW Z b8 f8 hi0
                  go_upto_region 27 with fail
                  have g1 : decide ((f.pg : Int) < 0) = false := decide_eq_false (by omega)
                  have g2 : decide ((pages : Int) ≤ (f.pg : Int)) = false := decide_eq_false (by omega)
                  have g3 : decide (f.fst < 1) = false := decide_eq_false (by omega)
                  have g4 : decide ((vn : Int) < 2) = false := decide_eq_false (by omega)
                  have g5 : decide ((0 : Int) < (i : Int)) = false := decide_eq_false (by omega)
                  have n2' : (pages ≤ f.pg) = False := eq_false (by omega)
                  have n4' : (vn < 2) = False := eq_false (by omega)
                  have n5' : (0 < i) = False := eq_false (by omega)
                  clear d1 d2 d3 d4 d5
                  refine wp_region_held_drew (S := fun w' => Fr [] w8 w') (by kernel_rfl) (Fr.refl [] w8).drew (fun hHeld => ?_)
                  refine wpAnyH_take (i := 0) (v := ?_) rfl (by kernel_rfl) (by kernel_rfl) (by kernel_rfl) (fun _ _ _ h => h) (Or.inl ⟨by kernel_rfl, ?_⟩) hHeld ?_
                  rotate_left
                  · intro w' hSw
                    go_simp
                    try with_reducible rfl
                  try simp only [Act.put, List.getElem_toArray, List.getElem_cons_zero, List.setIfInBounds_toArray, List.set_cons_zero, List.set_cons_succ]
                  refine wpAnyH_take (i := 1) (v := ?_) rfl (by kernel_rfl) (by kernel_rfl) (by kernel_rfl) (fun _ _ _ h => h) (Or.inl ⟨by kernel_rfl, ?_⟩) hHeld ?_
                  rotate_left
                  · intro w' hSw
                    obtain ⟨y0, y1, y2, y3⟩ := KZ.out w' hSw
                    go_simp
                    try with_reducible rfl
                  try simp only [Act.put, List.getElem_toArray, List.getElem_cons_succ, List.getElem_cons_zero, List.setIfInBounds_toArray, List.set_cons_zero, List.set_cons_succ]
                  refine wpAnyH_take (i := 2) (v := ?_) rfl (by kernel_rfl) (by kernel_rfl) (by kernel_rfl) (fun _ _ _ h => h) (Or.inl ⟨by kernel_rfl, ?_⟩) hHeld ?_
                  rotate_left
                  · intro w' hSw
                    go_simp
                    try with_reducible rfl
                  try simp only [Act.put, List.getElem_toArray, List.getElem_cons_succ, List.getElem_cons_zero, List.setIfInBounds_toArray, List.set_cons_zero, List.set_cons_succ]
                  refine wpAnyH_take (i := 3) (v := ?_) rfl (by kernel_rfl) (by kernel_rfl) (by kernel_rfl) (fun _ _ _ h => h) (Or.inl ⟨by kernel_rfl, ?_⟩) hHeld ?_
                  rotate_left
                  · intro w' hSw
                    go_simp
                    try with_reducible rfl
                  try simp only [Act.put, List.getElem_toArray, List.getElem_cons_succ, List.getElem_cons_zero, List.setIfInBounds_toArray, List.set_cons_zero, List.set_cons_succ]
                  refine wpAnyH_take (i := 4) (v := ?_) rfl (by kernel_rfl) (by kernel_rfl) (by kernel_rfl) (fun _ _ _ h => h) (Or.inl ⟨by kernel_rfl, ?_⟩) hHeld ?_
                  rotate_left
                  · intro w' hSw
                    go_simp
                    try with_reducible rfl
                  try simp only [Act.put, List.getElem_toArray, List.getElem_cons_succ, List.getElem_cons_zero, List.setIfInBounds_toArray, List.set_cons_zero, List.set_cons_succ]
                  refine wpAnyH_take (i := 5) (v := ?_) rfl (by kernel_rfl) (by kernel_rfl) (by kernel_rfl) (fun _ _ _ h => h) (Or.inl ⟨by kernel_rfl, ?_⟩) hHeld ?_
                  rotate_left
                  · intro w' hSw
                    obtain ⟨y0, y1, y2, y3⟩ := KZ.out w' hSw
                    go_simp
                    try with_reducible rfl
                  try simp only [Act.put, List.getElem_toArray, List.getElem_cons_succ, List.getElem_cons_zero, List.setIfInBounds_toArray, List.set_cons_zero, List.set_cons_succ]
                  refine wpAnyH_take (i := 6) (v := ?_) rfl (by kernel_rfl) (by kernel_rfl) (by kernel_rfl) (fun _ _ _ h => h) (Or.inl ⟨by kernel_rfl, ?_⟩) hHeld ?_
                  rotate_left
                  · intro w' hSw
                    go_simp
                    try with_reducible rfl
                  try simp only [Act.put, List.getElem_toArray, List.getElem_cons_succ, List.getElem_cons_zero, List.setIfInBounds_toArray, List.set_cons_zero, List.set_cons_succ]
                  refine wpAnyH_take (i := 7) (v := ?_) rfl (by kernel_rfl) (by kernel_rfl) (by kernel_rfl) (fun _ _ _ h => h) (Or.inl ⟨by kernel_rfl, ?_⟩) hHeld ?_
                  rotate_left
                  · intro w' hSw
                    go_simp
                    try with_reducible rfl
                  try simp only [Act.put, List.getElem_toArray, List.getElem_cons_succ, List.getElem_cons_zero, List.setIfInBounds_toArray, List.set_cons_zero, List.set_cons_succ]
                  refine wpAnyH_take (i := 8) (v := ?_) rfl (by kernel_rfl) (by kernel_rfl) (by kernel_rfl) (fun _ _ _ h => h) (Or.inl ⟨by kernel_rfl, ?_⟩) hHeld ?_
                  rotate_left
                  · intro w' hSw
                    go_simp
                    try with_reducible rfl
                  try simp only [Act.put, List.getElem_toArray, List.getElem_cons_succ, List.getElem_cons_zero, List.setIfInBounds_toArray, List.set_cons_zero, List.set_cons_succ]
                  refine wpAnyH_take (i := 9) (v := ?_) rfl (by kernel_rfl) (by kernel_rfl) (by kernel_rfl) (fun _ _ _ h => h) (Or.inl ⟨by kernel_rfl, ?_⟩) hHeld ?_
                  rotate_left
                  · intro w' hSw
                    go_simp
                    try with_reducible rfl
                  try simp only [Act.put, List.getElem_toArray, List.getElem_cons_succ, List.getElem_cons_zero, List.setIfInBounds_toArray, List.set_cons_zero, List.set_cons_succ]
                  refine wpAnyH_take (i := 10) (v := ?_) rfl (by kernel_rfl) (by kernel_rfl) (by kernel_rfl) (fun _ _ _ h => h) (Or.inl ⟨by kernel_rfl, ?_⟩) hHeld ?_
                  rotate_left
                  · intro w' hSw
                    go_simp
                    try with_reducible rfl
                  try simp only [Act.put, List.getElem_toArray, List.getElem_cons_succ, List.getElem_cons_zero, List.setIfInBounds_toArray, List.set_cons_zero, List.set_cons_succ]
                  refine wpAnyH_take (i := 11) (v := ?_) rfl (by kernel_rfl) (by kernel_rfl) (by kernel_rfl) (fun _ _ _ h => h) (Or.inl ⟨by kernel_rfl, ?_⟩) hHeld ?_
                  rotate_left
                  · intro w' hSw
                    go_simp
                    try with_reducible rfl
                  try simp only [Act.put, List.getElem_toArray, List.getElem_cons_succ, List.getElem_cons_zero, List.setIfInBounds_toArray, List.set_cons_zero, List.set_cons_succ]
                  refine wpAnyH_take (i := 12) (v := ?_) rfl (by kernel_rfl) (by kernel_rfl) (by kernel_rfl) (fun _ _ _ h => h) (Or.inl ⟨by kernel_rfl, ?_⟩) hHeld ?_
                  rotate_left
                  · intro w' hSw
                    go_simp
                    try with_reducible rfl
                  try simp only [Act.put, List.getElem_toArray, List.getElem_cons_succ, List.getElem_cons_zero, List.setIfInBounds_toArray, List.set_cons_zero, List.set_cons_succ]
                  refine wpAnyH_take (i := 13) (v := undef) rfl (by kernel_rfl) (by kernel_rfl) (by kernel_rfl) (fun _ _ _ h => h) (Or.inr ⟨by kernel_rfl, rfl⟩) hHeld ?_
                  try simp only [Act.put, List.getElem_toArray, List.getElem_cons_succ, List.getElem_cons_zero, List.setIfInBounds_toArray, List.set_cons_zero, List.set_cons_succ]
                  refine wpAnyH_take (i := 14) (v := undef) rfl (by kernel_rfl) (by kernel_rfl) (by kernel_rfl) (fun _ _ _ h => h) (Or.inr ⟨by kernel_rfl, rfl⟩) hHeld ?_
                  try simp only [Act.put, List.getElem_toArray, List.getElem_cons_succ, List.getElem_cons_zero, List.setIfInBounds_toArray, List.set_cons_zero, List.set_cons_succ]
                  refine wpAnyH_take (i := 15) (v := undef) rfl (by kernel_rfl) (by kernel_rfl) (by kernel_rfl) (fun _ _ _ h => h) (Or.inr ⟨by kernel_rfl, rfl⟩) hHeld ?_
                  try simp only [Act.put, List.getElem_toArray, List.getElem_cons_succ, List.getElem_cons_zero, List.setIfInBounds_toArray, List.set_cons_zero, List.set_cons_succ]
                  refine wpAnyH_take (i := 16) (v := undef) rfl (by kernel_rfl) (by kernel_rfl) (by kernel_rfl) (fun _ _ _ h => h) (Or.inr ⟨by kernel_rfl, rfl⟩) hHeld ?_
                  try simp only [Act.put, List.getElem_toArray, List.getElem_cons_succ, List.getElem_cons_zero, List.setIfInBounds_toArray, List.set_cons_zero, List.set_cons_succ]
                  refine wpAnyH_take (i := 17) (v := undef) rfl (by kernel_rfl) (by kernel_rfl) (by kernel_rfl) (fun _ _ _ h => h) (Or.inr ⟨by kernel_rfl, rfl⟩) hHeld ?_
                  try simp only [Act.put, List.getElem_toArray, List.getElem_cons_succ, List.getElem_cons_zero, List.setIfInBounds_toArray, List.set_cons_zero, List.set_cons_succ]
                  refine wpAnyH_take (i := 18) (v := undef) rfl (by kernel_rfl) (by kernel_rfl) (by kernel_rfl) (fun _ _ _ h => h) (Or.inr ⟨by kernel_rfl, rfl⟩) hHeld ?_
                  try simp only [Act.put, List.getElem_toArray, List.getElem_cons_succ, List.getElem_cons_zero, List.setIfInBounds_toArray, List.set_cons_zero, List.set_cons_succ]
                  refine wpAnyH_take (i := 19) (v := undef) rfl (by kernel_rfl) (by kernel_rfl) (by kernel_rfl) (fun _ _ _ h => h) (Or.inr ⟨by kernel_rfl, rfl⟩) hHeld ?_
                  try simp only [Act.put, List.getElem_toArray, List.getElem_cons_succ, List.getElem_cons_zero, List.setIfInBounds_toArray, List.set_cons_zero, List.set_cons_succ]
                  refine wpAnyH_take (i := 20) (v := undef) rfl (by kernel_rfl) (by kernel_rfl) (by kernel_rfl) (fun _ _ _ h => h) (Or.inr ⟨by kernel_rfl, rfl⟩) hHeld ?_
                  try simp only [Act.put, List.getElem_toArray, List.getElem_cons_succ, List.getElem_cons_zero, List.setIfInBounds_toArray, List.set_cons_zero, List.set_cons_succ]
                  refine wpAnyH_take (i := 21) (v := undef) rfl (by kernel_rfl) (by kernel_rfl) (by kernel_rfl) (fun _ _ _ h => h) (Or.inr ⟨by kernel_rfl, rfl⟩) hHeld ?_
                  try simp only [Act.put, List.getElem_toArray, List.getElem_cons_succ, List.getElem_cons_zero, List.setIfInBounds_toArray, List.set_cons_zero, List.set_cons_succ]
                  refine wpAnyH_take (i := 22) (v := ?_) rfl (by kernel_rfl) (by kernel_rfl) (by kernel_rfl) (fun _ _ _ h => h) (Or.inl ⟨by kernel_rfl, ?_⟩) hHeld ?_
                  rotate_left
                  · intro w' hSw
                    go_simp
                    try with_reducible rfl
                  try simp only [Act.put, List.getElem_toArray, List.getElem_cons_succ, List.getElem_cons_zero, List.setIfInBounds_toArray, List.set_cons_zero, List.set_cons_succ]
                  refine wpAnyH_take (i := 23) (v := ?_) rfl (by kernel_rfl) (by kernel_rfl) (by kernel_rfl) (fun _ _ _ h => h) (Or.inl ⟨by kernel_rfl, ?_⟩) hHeld ?_
                  rotate_left
                  · intro w' hSw
                    go_simp
                    try with_reducible rfl
                  try simp only [Act.put, List.getElem_toArray, List.getElem_cons_succ, List.getElem_cons_zero, List.setIfInBounds_toArray, List.set_cons_zero, List.set_cons_succ]
                  refine wpAnyH_take (i := 24) (v := ?_) rfl (by kernel_rfl) (by kernel_rfl) (by kernel_rfl) (fun _ _ _ h => h) (Or.inl ⟨by kernel_rfl, ?_⟩) hHeld ?_
                  rotate_left
                  · intro w' hSw
                    go_simp
                    try with_reducible rfl
                  try simp only [Act.put, List.getElem_toArray, List.getElem_cons_succ, List.getElem_cons_zero, List.setIfInBounds_toArray, List.set_cons_zero, List.set_cons_succ]
                  refine wpAnyH_take (i := 25) (v := ?_) rfl (by kernel_rfl) (by kernel_rfl) (by kernel_rfl) (fun _ _ _ h => h) (Or.inl ⟨by kernel_rfl, ?_⟩) hHeld ?_
                  rotate_left
                  · intro w' hSw
                    go_simp
                    try with_reducible rfl
                  try simp only [Act.put, List.getElem_toArray, List.getElem_cons_succ, List.getElem_cons_zero, List.setIfInBounds_toArray, List.set_cons_zero, List.set_cons_succ]
                  refine wpAnyH_take (i := 26) (v := ?_) rfl (by kernel_rfl) (by kernel_rfl) (by kernel_rfl) (fun _ _ _ h => h) (Or.inl ⟨by kernel_rfl, ?_⟩) hHeld ?_
                  rotate_left
                  · intro w' hSw
                    obtain ⟨y0, y1, y2, y3⟩ := KZ.out w' hSw
                    go_simp
                    try with_reducible rfl
                  try simp only [Act.put, List.getElem_toArray, List.getElem_cons_succ, List.getElem_cons_zero, List.setIfInBounds_toArray, List.set_cons_zero, List.set_cons_succ]
                  refine wpAnyH_take (i := 27) (v := ?_) rfl (by kernel_rfl) (by kernel_rfl) (by kernel_rfl) (fun _ _ _ h => h) (Or.inl ⟨by kernel_rfl, ?_⟩) hHeld ?_
                  rotate_left
                  · intro w' hSw
                    go_simp
                    try with_reducible rfl
                  try simp only [Act.put, List.getElem_toArray, List.getElem_cons_succ, List.getElem_cons_zero, List.setIfInBounds_toArray, List.set_cons_zero, List.set_cons_succ]
                  refine wpAnyH_take (i := 28) (v := ?_) rfl (by kernel_rfl) (by kernel_rfl) (by kernel_rfl) (fun _ _ _ h => h) (Or.inl ⟨by kernel_rfl, ?_⟩) hHeld ?_
                  rotate_left
                  · intro w' hSw
                    go_simp
                    try with_reducible rfl
                  try simp only [Act.put, List.getElem_toArray, List.getElem_cons_succ, List.getElem_cons_zero, List.setIfInBounds_toArray, List.set_cons_zero, List.set_cons_succ]
                  refine wpAnyH_take (i := 29) (v := ?_) rfl (by kernel_rfl) (by kernel_rfl) (by kernel_rfl) (fun _ _ _ h => h) (Or.inl ⟨by kernel_rfl, ?_⟩) hHeld ?_
                  rotate_left
                  · intro w' hSw
                    go_simp
                    try with_reducible rfl
                  try simp only [Act.put, List.getElem_toArray, List.getElem_cons_succ, List.getElem_cons_zero, List.setIfInBounds_toArray, List.set_cons_zero, List.set_cons_succ]
                  refine wpAnyH_take (i := 30) (v := ?_) rfl (by kernel_rfl) (by kernel_rfl) (by kernel_rfl) (fun _ _ _ h => h) (Or.inl ⟨by kernel_rfl, ?_⟩) hHeld ?_
                  rotate_left
                  · intro w' hSw
                    go_simp
                    try with_reducible rfl
                  try simp only [Act.put, List.getElem_toArray, List.getElem_cons_succ, List.getElem_cons_zero, List.setIfInBounds_toArray, List.set_cons_zero, List.set_cons_succ]
                  refine wpAnyH_take (i := 31) (v := ?_) rfl (by kernel_rfl) (by kernel_rfl) (by kernel_rfl) (fun _ _ _ h => h) (Or.inl ⟨by kernel_rfl, ?_⟩) hHeld ?_
                  rotate_left
                  · intro w' hSw
                    go_simp
                    try with_reducible rfl
                  try simp only [Act.put, List.getElem_toArray, List.getElem_cons_succ, List.getElem_cons_zero, List.setIfInBounds_toArray, List.set_cons_zero, List.set_cons_succ]
                  refine wpAnyH_take (i := 32) (v := ?_) rfl (by kernel_rfl) (by kernel_rfl) (by kernel_rfl) (fun _ _ _ h => h) (Or.inl ⟨by kernel_rfl, ?_⟩) hHeld ?_
                  rotate_left
                  · intro w' hSw
                    go_simp
                    try with_reducible rfl
                  try simp only [Act.put, List.getElem_toArray, List.getElem_cons_succ, List.getElem_cons_zero, List.setIfInBounds_toArray, List.set_cons_zero, List.set_cons_succ]
                  refine wpAnyH_take (i := 33) (v := ?_) rfl (by kernel_rfl) (by kernel_rfl) (by kernel_rfl) (fun _ _ _ h => h) (Or.inl ⟨by kernel_rfl, ?_⟩) hHeld ?_
                  rotate_left
                  · intro w' hSw
                    obtain ⟨y0, y1, y2, y3⟩ := KZ.out w' hSw
                    go_simp
                    try with_reducible rfl
                  try simp only [Act.put, List.getElem_toArray, List.getElem_cons_succ, List.getElem_cons_zero, List.setIfInBounds_toArray, List.set_cons_zero, List.set_cons_succ]
                  refine wpAnyH_take (i := 34) (v := ?_) rfl (by kernel_rfl) (by kernel_rfl) (by kernel_rfl) (fun _ _ _ h => h) (Or.inl ⟨by kernel_rfl, ?_⟩) hHeld ?_
                  rotate_left
                  · intro w' hSw
                    go_simp
                    try with_reducible rfl
                  try simp only [Act.put, List.getElem_toArray, List.getElem_cons_succ, List.getElem_cons_zero, List.setIfInBounds_toArray, List.set_cons_zero, List.set_cons_succ]
                  refine wpAnyH_take (i := 35) (v := ?_) rfl (by kernel_rfl) (by kernel_rfl) (by kernel_rfl) (fun _ _ _ h => h) (Or.inl ⟨by kernel_rfl, ?_⟩) hHeld ?_
                  rotate_left
                  · intro w' hSw
                    obtain ⟨y0, y1, y2, y3⟩ := KZ.out w' hSw
                    go_simp
                    try with_reducible rfl
                  try simp only [Act.put, List.getElem_toArray, List.getElem_cons_succ, List.getElem_cons_zero, List.setIfInBounds_toArray, List.set_cons_zero, List.set_cons_succ]
                  refine wpAnyH_take (i := 36) (v := ?_) rfl (by kernel_rfl) (by kernel_rfl) (by kernel_rfl) (fun _ _ _ h => h) (Or.inl ⟨by kernel_rfl, ?_⟩) hHeld ?_
                  rotate_left
                  · intro w' hSw
                    go_simp
                    try with_reducible rfl
                  try simp only [Act.put, List.getElem_toArray, List.getElem_cons_succ, List.getElem_cons_zero, List.setIfInBounds_toArray, List.set_cons_zero, List.set_cons_succ]
                  refine wpAnyH_take (i := 37) (v := ?_) rfl (by kernel_rfl) (by kernel_rfl) (by kernel_rfl) (fun _ _ _ h => h) (Or.inl ⟨by kernel_rfl, ?_⟩) hHeld ?_
                  rotate_left
                  · intro w' hSw
                    obtain ⟨y0, y1, y2, y3⟩ := KZ.out w' hSw
                    go_simp
                    try with_reducible rfl
                  try simp only [Act.put, List.getElem_toArray, List.getElem_cons_succ, List.getElem_cons_zero, List.setIfInBounds_toArray, List.set_cons_zero, List.set_cons_succ]
                  refine wpAnyH_take (i := 38) (v := ?_) rfl (by kernel_rfl) (by kernel_rfl) (by kernel_rfl) (fun _ _ _ h => h) (Or.inl ⟨by kernel_rfl, ?_⟩) hHeld ?_
                  rotate_left
                  · intro w' hSw
                    go_simp
                    try with_reducible rfl
                  try simp only [Act.put, List.getElem_toArray, List.getElem_cons_succ, List.getElem_cons_zero, List.setIfInBounds_toArray, List.set_cons_zero, List.set_cons_succ]
                  refine wpAnyH_take (i := 39) (v := ?_) rfl (by kernel_rfl) (by kernel_rfl) (by kernel_rfl) (fun _ _ _ h => h) (Or.inl ⟨by kernel_rfl, ?_⟩) hHeld ?_
                  rotate_left
                  · intro w' hSw
                    go_simp
                    try with_reducible rfl
                  try simp only [Act.put, List.getElem_toArray, List.getElem_cons_succ, List.getElem_cons_zero, List.setIfInBounds_toArray, List.set_cons_zero, List.set_cons_succ]
                  refine wpAnyH_take (i := 40) (v := ?_) rfl (by kernel_rfl) (by kernel_rfl) (by kernel_rfl) (fun _ _ _ h => h) (Or.inl ⟨by kernel_rfl, ?_⟩) hHeld ?_
                  rotate_left
                  · intro w' hSw
                    go_simp
                    try with_reducible rfl
                  try simp only [Act.put, List.getElem_toArray, List.getElem_cons_succ, List.getElem_cons_zero, List.setIfInBounds_toArray, List.set_cons_zero, List.set_cons_succ]
                  refine wpAnyH_take (i := 41) (v := undef) rfl (by kernel_rfl) (by kernel_rfl) (by kernel_rfl) (fun _ _ _ h => h) (Or.inr ⟨by kernel_rfl, rfl⟩) hHeld ?_
                  try simp only [Act.put, List.getElem_toArray, List.getElem_cons_succ, List.getElem_cons_zero, List.setIfInBounds_toArray, List.set_cons_zero, List.set_cons_succ]
                  refine wpAnyH_take (i := 42) (v := undef) rfl (by kernel_rfl) (by kernel_rfl) (by kernel_rfl) (fun _ _ _ h => h) (Or.inr ⟨by kernel_rfl, rfl⟩) hHeld ?_
                  try simp only [Act.put, List.getElem_toArray, List.getElem_cons_succ, List.getElem_cons_zero, List.setIfInBounds_toArray, List.set_cons_zero, List.set_cons_succ]
                  refine wpAnyH_take (i := 43) (v := undef) rfl (by kernel_rfl) (by kernel_rfl) (by kernel_rfl) (fun _ _ _ h => h) (Or.inr ⟨by kernel_rfl, rfl⟩) hHeld ?_
                  try simp only [Act.put, List.getElem_toArray, List.getElem_cons_succ, List.getElem_cons_zero, List.setIfInBounds_toArray, List.set_cons_zero, List.set_cons_succ]
                  refine wpAnyH_take (i := 44) (v := undef) rfl (by kernel_rfl) (by kernel_rfl) (by kernel_rfl) (fun _ _ _ h => h) (Or.inr ⟨by kernel_rfl, rfl⟩) hHeld ?_
                  try simp only [Act.put, List.getElem_toArray, List.getElem_cons_succ, List.getElem_cons_zero, List.setIfInBounds_toArray, List.set_cons_zero, List.set_cons_succ]
                  refine wpAnyH_take (i := 45) (v := undef) rfl (by kernel_rfl) (by kernel_rfl) (by kernel_rfl) (fun _ _ _ h => h) (Or.inr ⟨by kernel_rfl, rfl⟩) hHeld ?_
                  try simp only [Act.put, List.getElem_toArray, List.getElem_cons_succ, List.getElem_cons_zero, List.setIfInBounds_toArray, List.set_cons_zero, List.set_cons_succ]
                  refine wpAnyH_take (i := 46) (v := undef) rfl (by kernel_rfl) (by kernel_rfl) (by kernel_rfl) (fun _ _ _ h => h) (Or.inr ⟨by kernel_rfl, rfl⟩) hHeld ?_
                  try simp only [Act.put, List.getElem_toArray, List.getElem_cons_succ, List.getElem_cons_zero, List.setIfInBounds_toArray, List.set_cons_zero, List.set_cons_succ]
                  refine wpAnyH_take (i := 47) (v := undef) rfl (by kernel_rfl) (by kernel_rfl) (by kernel_rfl) (fun _ _ _ h => h) (Or.inr ⟨by kernel_rfl, rfl⟩) hHeld ?_
                  try simp only [Act.put, List.getElem_toArray, List.getElem_cons_succ, List.getElem_cons_zero, List.setIfInBounds_toArray, List.set_cons_zero, List.set_cons_succ]
                  refine wpAnyH_take (i := 48) (v := undef) rfl (by kernel_rfl) (by kernel_rfl) (by kernel_rfl) (fun _ _ _ h => h) (Or.inr ⟨by kernel_rfl, rfl⟩) hHeld ?_
                  try simp only [Act.put, List.getElem_toArray, List.getElem_cons_succ, List.getElem_cons_zero, List.setIfInBounds_toArray, List.set_cons_zero, List.set_cons_succ]
                  refine wpAnyH_take (i := 49) (v := undef) rfl (by kernel_rfl) (by kernel_rfl) (by kernel_rfl) (fun _ _ _ h => h) (Or.inr ⟨by kernel_rfl, rfl⟩) hHeld ?_
                  try simp only [Act.put, List.getElem_toArray, List.getElem_cons_succ, List.getElem_cons_zero, List.setIfInBounds_toArray, List.set_cons_zero, List.set_cons_succ]
                  refine wpAnyH_take (i := 50) (v := undef) rfl (by kernel_rfl) (by kernel_rfl) (by kernel_rfl) (fun _ _ _ h => h) (Or.inr ⟨by kernel_rfl, rfl⟩) hHeld ?_
                  try simp only [Act.put, List.getElem_toArray, List.getElem_cons_succ, List.getElem_cons_zero, List.setIfInBounds_toArray, List.set_cons_zero, List.set_cons_succ]
                  refine wpAnyH_take (i := 51) (v := undef) rfl (by kernel_rfl) (by kernel_rfl) (by kernel_rfl) (fun _ _ _ h => h) (Or.inr ⟨by kernel_rfl, rfl⟩) hHeld ?_
                  try simp only [Act.put, List.getElem_toArray, List.getElem_cons_succ, List.getElem_cons_zero, List.setIfInBounds_toArray, List.set_cons_zero, List.set_cons_succ]
                  refine wpAnyH_take (i := 52) (v := undef) rfl (by kernel_rfl) (by kernel_rfl) (by kernel_rfl) (fun _ _ _ h => h) (Or.inr ⟨by kernel_rfl, rfl⟩) hHeld ?_
                  try simp only [Act.put, List.getElem_toArray, List.getElem_cons_succ, List.getElem_cons_zero, List.setIfInBounds_toArray, List.set_cons_zero, List.set_cons_succ]
                  refine wpAnyH_take (i := 53) (v := ?_) rfl (by kernel_rfl) (by kernel_rfl) (by kernel_rfl) (fun _ _ _ h => h) (Or.inl ⟨by kernel_rfl, ?_⟩) hHeld ?_
                  rotate_left
                  · intro w' hSw
                    go_simp
                    try with_reducible rfl
                  try simp only [Act.put, List.getElem_toArray, List.getElem_cons_succ, List.getElem_cons_zero, List.setIfInBounds_toArray, List.set_cons_zero, List.set_cons_succ]
                  refine wpAnyH_take (i := 54) (v := ?_) rfl (by kernel_rfl) (by kernel_rfl) (by kernel_rfl) (fun _ _ _ h => h) (Or.inl ⟨by kernel_rfl, ?_⟩) hHeld ?_
                  rotate_left
                  · intro w' hSw
                    go_simp
                    try with_reducible rfl
                  try simp only [Act.put, List.getElem_toArray, List.getElem_cons_succ, List.getElem_cons_zero, List.setIfInBounds_toArray, List.set_cons_zero, List.set_cons_succ]
                  refine wpAnyH_done (by kernel_rfl) ?_ _
                  go_wp2_with fail
                  exact ⟨⟨i + 1, by go_num, by omega, hidI F8.out.drew⟩, by simp [intOf]; omega⟩
              · have i1 : ¬ (i : Int) < (n2 : Int) := by omega
                go_wp2_with fail
                exact ⟨⟨k + 1, by go_num, by omega, hidI ⟨x5, m5, HM5.out, HY.out.quiet (F6.out.trans (HD7.out.fr.trans FQ.out)), by have h9 := HI5.out; simpa using h9⟩⟩, by simp [intOf]; omega⟩
        · have q1 : ¬ (k : Int) < (nL : Int) := by omega
          go_wp2_with fail
          go_ret
          exact ⟨rfl, FRw⟩
end Go.Proofs.YtopaeomjndblkaaGreat

