/-
  PoolFew: with few frames pages are read just as with many.
-/
import Derived.Test.YtplboeplknggbaaGreatXU9
import Derived.Test.YtplboeplknggbaaGreatXUO
namespace Go.Proofs.YtplboeplknggbaaGreat
open Go.RowKit Go.Maps

/-- What holds of both rigs behind some deeds. -/
structure Fw (w wr : World) (ra : Nat) (xa : Po) (rb : Nat) (xb : Po) (i : Nat) : Prop where
  duo : Duo w wr ra xa rb xb
  fa : Rf xa 8 i
  fb : Rf xb 40 i
  both : Both xa xb
set_option maxHeartbeats 8000000 in
set_option maxRecDepth 100000 in
theorem few_law (w : World) (ad : Option Addr) (n cap : Nat) (L : List DeedV) (hn : L.length = n) (hcap : n ≤ maxLen) (hD : DeedsAt w ad L) :
    Calls Tryz.prog 6 #[.slice ad n cap] w fun e w' => e = .returned (.bool true) ∧ Fr [] w w' := by
  have HD := hidI hD
  have HN := hidI hn
  have hnb : n < 9223372036854775808 := by unfold maxLen at hcap; omega
  clear hD hn hcap
  go_enter Tryz.func6, Tryz.ntmps6
  by_cases h80 : 80 < n
  · have q : 80 < (n : Int) := by omega
    go_wp2_with (go_at_call 7; refine (awake_any _).mono ?_; rintro e w1 ⟨rfl, f1⟩)
    go_ret
    exact ⟨rfl, f1⟩
  · have q : ¬ 80 < (n : Int) := by omega
    go_wp2_with (go_at_call 7; refine (awake_any _).mono ?_; rintro e w1 ⟨rfl, f1⟩)
    refine (begin_ok w1 30 8 (by omega) (by omega) (by omega) (by omega)).mono ?_
    rintro e w2 ⟨ra, da, bsa, boa, pa, ppa, rpa, mpa, rfl, RA, NA, f2⟩
    have HRA := hidI RA
    have HNA := hidI NA
    clear RA NA
    go_wp2_with fail
    refine (begin_ok w2 30 40 (by omega) (by omega) (by omega) (by omega)).mono ?_
    rintro e w3 ⟨rb, db, bsb, bob, pb, ppb, rpb, mpb, rfl, RB, NB, f3⟩
    have F0 : Hid (Fw w w3 ra (po0 da bsa boa (12 + ((30 : Nat) : Int)) pa ppa rpa mpa 12 30 8 12) rb (po0 db bsb bob (12 + ((30 : Nat) : Int)) pb ppb rpb mpb 12 30 40 12) 0) := hidI ⟨⟨HRA.out.kept f3 (by simp) (by simp), RB, f1.trans (f2.trans f3), fun k hk => Nat.le_trans f1.size (HNA.out k hk), fun k hk => Nat.le_trans (Nat.le_trans f1.size f2.size) (NB k hk), fun k hk hk2 => by
      have h1 := HRA.out.all_lt k hk
      have h2 := NB k hk2
      omega⟩, ⟨rfl, rfl, by omega, rfl, rfl, Nat.le_refl _, fun f hf => (nomatch hf), Nat.zero_le _⟩, ⟨rfl, rfl, by omega, rfl, rfl, Nat.le_refl _, fun f hf => (nomatch hf), Nat.zero_le _⟩, fun q _ => ⟨_, po0_val _ _ _ _ _ _ _ _ _ _ _ _ q, po0_val _ _ _ _ _ _ _ _ _ _ _ _ q⟩⟩
    clear RB NB f2 f3 HRA HNA f1
    go_wp2_with fail
    go_loopw [5, 6, 7, 8, 9, 10, 11, 12] (fun s5 s6 s7 s8 s9 s10 s11 s12 wr => ∃ (i : Nat) (xa xb : Po), i ≤ n ∧ s5 = .int .i64 (i : Int) ∧ s6 = s6 ∧ s7 = s7 ∧ s8 = s8 ∧ s9 = s9 ∧ s10 = s10 ∧ s11 = s11 ∧ s12 = s12 ∧ xa.pp = ppa ∧ xb.pp = ppb ∧ Hid (Fw w wr ra xa rb xb i)) (fun s5 _ _ _ _ _ _ _ _ => n - (intOf s5).toNat)
    case atStart => exact ⟨0, _, _, by omega, rfl, rfl, rfl, rfl, rfl, rfl, rfl, rfl, rfl, rfl, F0⟩
    case round =>
      obtain ⟨i, xa, xb, hi, rfl, -, -, -, -, -, -, -, hpa, hpb, HF⟩ := hrel
      by_cases hlt : i < n
      · have q1 : (i : Int) < (n : Int) := by omega
        have q0 : (0 : Int) ≤ (i : Int) := by omega
        obtain ⟨d, hd⟩ : ∃ d, L[i]? = some d := ⟨_, List.getElem?_eq_getElem (by have := HN.out; omega)⟩
        obtain ⟨ok, b, off, had, hc⟩ := (HD.out.kept HF.out.duo.fr) i d hd
        subst had
        have c0 : wr.cell? ⟨b, off + i * 8, none⟩ = some (.int .i64 d.kind) := hc 0 _ rfl
        have c1 : wr.cell? ⟨b, off + i * 8 + 1, none⟩ = some (.int .i64 d.page) := hc 1 _ rfl
        have c2 : wr.cell? ⟨b, off + i * 8 + 2, none⟩ = some (.int .i64 d.blk) := hc 2 _ rfl
        have c3 : wr.cell? ⟨b, off + i * 8 + 3, none⟩ = some (.int .i64 d.off) := hc 3 _ rfl
        have c4 : wr.cell? ⟨b, off + i * 8 + 4, none⟩ = some (.slice d.a1 d.l1.length d.c1) := hc 4 _ rfl
        have c5 : wr.cell? ⟨b, off + i * 8 + 5, none⟩ = some (.slice d.a2 d.l2.length d.c2) := hc 5 _ rfl
        have c6 : wr.cell? ⟨b, off + i * 8 + 6, none⟩ = some (.int .i64 d.N) := hc 6 _ rfl
        have c7 : wr.cell? ⟨b, off + i * 8 + 7, none⟩ = some (.bool d.odd) := hc 7 _ rfl
        have OK := hidI ok
        have HDI := hidI hd
        clear hc ok hd
        have fa : Fr [] wr (wr.alloc (.cells #[.int .i64 d.kind, .int .i64 d.page, .int .i64 d.blk, .int .i64 d.off, .slice d.a1 d.l1.length d.c1, .slice d.a2 d.l2.length d.c2, .int .i64 d.N, .bool d.odd] 44)) := (Fr.refl [] wr).alloc _
        have hbx : (wr.alloc (.cells #[.int .i64 d.kind, .int .i64 d.page, .int .i64 d.blk, .int .i64 d.off, .slice d.a1 d.l1.length d.c1, .slice d.a2 d.l2.length d.c2, .int .i64 d.N, .bool d.odd] 44)).heap[wr.heap.size]? = some (.cells #[.int .i64 d.kind, .int .i64 d.page, .int .i64 d.blk, .int .i64 d.off, .slice d.a1 d.l1.length d.c1, .slice d.a2 d.l2.length d.c2, .int .i64 d.N, .bool d.odd] 44) := heap_alloc_new wr _
        go_wp2_with fail
        generalize (wr.alloc (.cells #[.int .i64 d.kind, .int .i64 d.page, .int .i64 d.blk, .int .i64 d.off, .slice d.a1 d.l1.length d.c1, .slice d.a2 d.l2.length d.c2, .int .i64 d.N, .bool d.odd] 44)) = w4 at fa hbx ⊢
        obtain ⟨xb0, HX0⟩ : ∃ xb0, Hid (wr.heap.size = xb0) := ⟨_, rfl⟩
        rw [HX0.out] at hbx ⊢
        obtain ⟨n2, HN2⟩ : ∃ n2, Hid (d.l2.length = n2) := ⟨_, rfl⟩
        obtain ⟨n1, HN1⟩ : ∃ n1, Hid (d.l1.length = n1) := ⟨_, rfl⟩
        rw [HN1.out, HN2.out] at hbx
        rw [HN1.out, HN2.out]
        have hn2 : n2 < 9223372036854775808 := by have h1 := OK.out.s2; rw [HN2.out] at h1; unfold maxLen at h1; omega
        have HBX := hidI hbx
        have F4 := hidI (⟨HF.out.duo.quiet fa, HF.out.fa, HF.out.fb, HF.out.both⟩ : Fw w w4 ra xa rb xb i)
        have SP4 := hidI (OK.out.sp.kept fa)
        have b0 : w4.cell? ⟨xb0, 0, none⟩ = some (.int .i64 d.kind) := cell_of_row w4 xb0 0 _ _ _ hbx
        have b3 : w4.cell? ⟨xb0, 3, none⟩ = some (.int .i64 d.off) := cell_of_row w4 xb0 3 _ _ _ hbx
        have b5 : w4.cell? ⟨xb0, 5, none⟩ = some (.slice d.a2 n2 d.c2) := cell_of_row w4 xb0 5 _ _ _ hbx
        obtain ⟨pg, HPG⟩ : ∃ pg : Nat, Hid (d.page % 30 = (pg : Int)) := ⟨(d.page % 30).toNat, hidI (by have := Int.emod_nonneg d.page (show (30 : Int) ≠ 0 by omega); omega)⟩
        have hpg : pg < 30 := by have h1 := Int.emod_lt_of_pos d.page (show (0 : Int) < 30 by omega); rw [HPG.out] at h1; omega
        have HPK := hidI (pick_any w4 d.page 30 OK.out.page (by omega) (by omega))
        rw [HPG.out] at HPK
        clear hbx c0 c1 c2 c3 c4 c5 c6 c7
        refine HPK.out.mono ?_
        rintro e wz ⟨rfl, hz⟩
        rw [hz]
        clear hz wz
        obtain ⟨G, HGG⟩ : ∃ G : Bool, Hid (G = decide (0 < n2 ∧ n2 < 50 ∧ d.kind.tmod 2 = 0)) := ⟨_, rfl⟩
        go_upto_region 11 with fail
        go_cut [54] from 24 to 128 (fun s54 wx => s54 = .bool G ∧ wx = w4)
        case first =>
          by_cases g1 : 0 < n2
          · have q5 : (0 : Int) < (n2 : Int) := by omega
            by_cases g2 : n2 < 50
            · have q6 : (n2 : Int) < 50 := by omega
              by_cases g3 : d.kind.tmod 2 = 0
              · have q7 : (d.kind.tmod 2 == 0) = true := beq_iff_eq.2 g3
                have e1 : G = true := by rw [HGG.out]; exact decide_eq_true ⟨g1, g2, g3⟩
                subst e1
                go_wp2_with fail
                go_meet
                exact ⟨rfl, rfl⟩
              · have q7 : (d.kind.tmod 2 == 0) = false := beq_eq_false_iff_ne.2 g3
                have e1 : G = false := by rw [HGG.out]; exact decide_eq_false (fun h => g3 h.2.2)
                subst e1
                go_wp2_with fail
                go_meet
                exact ⟨rfl, rfl⟩
            · have q6 : ¬ (n2 : Int) < 50 := by omega
              have e1 : G = false := by rw [HGG.out]; exact decide_eq_false (fun h => g2 h.2.1)
              subst e1
              go_wp2_with fail
              go_meet
              exact ⟨rfl, rfl⟩
          · have q5 : ¬ (0 : Int) < (n2 : Int) := by omega
            have e1 : G = false := by rw [HGG.out]; exact decide_eq_false (fun h => g1 h.1)
            subst e1
            go_wp2_with fail
            go_meet
            exact ⟨rfl, rfl⟩
        case rest =>
          obtain ⟨rfl, rfl⟩ := hcut
          go_upto_if 54 with fail
          go_cut [8] from 24 to 128 (fun s8 wx => s8 = s8 ∧ ∃ (xa' xb' : Po), xa'.pp = ppa ∧ xb'.pp = ppb ∧ Hid (Fw w wx ra xa' rb xb' (i + 1)))
          case first =>
            cases hG : G with
            | false =>
              go_wp2_with fail
              go_meet
              exact ⟨trivial, xa, xb, hpa, hpb, hidI ⟨F4.out.duo, F4.out.fa.next (by omega), F4.out.fb.next (by omega), F4.out.both⟩⟩
            | true =>
              have hgd : 0 < n2 ∧ n2 < 50 ∧ d.kind.tmod 2 = 0 := by
                have h1 := HGG.out
                rw [hG] at h1
                exact of_decide_eq_true h1.symm
              obtain ⟨g1, g2, -⟩ := hgd
              obtain ⟨o, HO⟩ : ∃ o : Nat, Hid (d.off % (512 - (n2 : Int)) = (o : Int)) := ⟨(d.off % (512 - (n2 : Int))).toNat, hidI (by have := Int.emod_nonneg d.off (show (512 - (n2 : Int)) ≠ 0 by omega); omega)⟩
              have ho : o + n2 < 512 := by have h1 := Int.emod_lt_of_pos d.off (show (0 : Int) < 512 - (n2 : Int) by omega); rw [HO.out] at h1; omega
              have hws : IntKind.i64.wrap (512 - (n2 : Int)) = 512 - (n2 : Int) := wrapI _ (by omega) (by omega)
              have HPO : Hid (∀ wz, Calls Tryz.prog 23 #[.int .i64 d.off, .int .i64 (512 - (n2 : Int))] wz fun e w' => e = .returned (.int .i64 (o : Int)) ∧ w' = wz) := hidI (fun wz => by
                have h1 := pick_any wz d.off (512 - (n2 : Int)) OK.out.off (by omega) (by omega)
                rw [HO.out] at h1
                exact h1)
              go_wp2_with fail
              go_cut [8] from 24 to 128 (fun s8 wx => ∃ sb, s8 = .pointer (some ⟨sb, 0, none⟩) ∧ Hid (wx.heap[sb]? = some (.cells #[.int .i64 (pg : Int), .int .i64 (o : Int), .slice none 0 0, .slice d.a2 n2 d.c2] 42) ∧ Fr [] wc wx ∧ wc.heap.size ≤ sb))
              case first =>
                have gg : Fr [] wc wc.drew := (Fr.refl _ _).drew
                have SK : Hid (∀ w', Fr [] wc w' → w'.cell? ⟨xb0, 3, none⟩ = some (.int .i64 d.off) ∧ w'.cell? ⟨xb0, 5, none⟩ = some (.slice d.a2 n2 d.c2)) := hidI (fun w' f => ⟨cell_of_row w' xb0 3 _ _ _ (f.same (by simp) HBX.out), cell_of_row w' xb0 5 _ _ _ (f.same (by simp) HBX.out)⟩)
                have k0 := SK.out _ gg
                have ne3 := World.new_ne _ _ k0.1
                go_region_held3 (fun w' => w'.cell? ⟨xb0, 3, none⟩ = some (.int .i64 d.off) ∧ w'.cell? ⟨xb0, 5, none⟩ = some (.slice d.a2 n2 d.c2)) (first | exact SK.out _ gg | exact SK.out _ (gg.alloc _) | go_keep)
                  ((go_at_call 23; refine (HPO.out _).mono ?_; rintro e wz ⟨rfl, hz⟩; rw [hz]; clear hz))
                all_goals
                  go_wp2
                  go_meet
                  exact ⟨wc.heap.size, rfl, hidI ⟨heap_alloc_new wc _, by first | exact ((Fr.refl [] wc).alloc _).drew | exact (Fr.refl [] wc).drew.alloc _, Nat.le_refl _⟩⟩
              case rest =>
                obtain ⟨sb, rfl, HSB⟩ := hcut
                have D5 := hidI (F4.out.duo.quiet HSB.out.2.1)
                have SP5 := hidI (SP4.out.kept HSB.out.2.1)
                have hE1 := F4.out.fa.E
                have hE2 := F4.out.fb.E
                obtain ⟨bb, ob, hbb⟩ : ∃ bb ob, d.a2 = some ⟨bb, ob, none⟩ := by
                  obtain ⟨bb, ob, e, _⟩ := SP5.out.b2.at 0 (by rw [HN2.out]; exact g1)
                  exact ⟨bb, ob, e⟩
                have hbw : bb < w.heap.size := by
                  have h1 := (HD.out i d HDI.out).1.sp.b2
                  obtain ⟨b', o', e, h2⟩ := h1.at 0 (by rw [HN2.out]; exact g1)
                  rw [hbb] at e
                  cases e
                  exact block_lt_of_cell h2
                have hfit : fitsB (pg : Int) (o : Int) n2 = true := by simp [fitsB]; omega
                have hsa : sb ∉ xa.own := fun e => by
                  have h1 := F4.out.duo.a.all_lt sb (by simp [e])
                  have h2 := HSB.out.2.2
                  omega
                have hsb : sb ∉ xb.own := fun e => by
                  have h1 := F4.out.duo.b.all_lt sb (by simp [e])
                  have h2 := HSB.out.2.2
                  omega
                have HKK : Hid (∀ w' xa' xb', Duo w w' ra xa' rb xb' → xa'.pp = ppa → xb'.pp = ppb → w'.heap[sb]? = some (.cells #[.int .i64 (pg : Int), .int .i64 (o : Int), .slice none 0 0, .slice d.a2 n2 d.c2] 42) → w'.cell? ⟨ra, 2, none⟩ = some (.pointer (some ⟨ppa, 0, none⟩)) ∧ w'.cell? ⟨rb, 2, none⟩ = some (.pointer (some ⟨ppb, 0, none⟩)) ∧ w'.cell? ⟨sb, 0, none⟩ = some (.int .i64 (pg : Int)) ∧ w'.cell? ⟨sb, 1, none⟩ = some (.int .i64 (o : Int)) ∧ w'.cell? ⟨sb, 2, none⟩ = some (.slice none 0 0) ∧ w'.cell? ⟨sb, 3, none⟩ = some (.slice d.a2 n2 d.c2)) := hidI (fun w' xa' xb' D e1 e2 hs => ⟨by rw [← e1]; exact D.a.box.c2, by rw [← e2]; exact D.b.box.c2, cell_of_row w' sb 0 _ _ _ hs, cell_of_row w' sb 1 _ _ _ hs, cell_of_row w' sb 2 _ _ _ hs, cell_of_row w' sb 3 _ _ _ hs⟩)
                have hbw2 : ∀ b o, d.a2 = some ⟨b, o, none⟩ → b < w.heap.size := fun b o e => by
                  rw [hbb] at e
                  cases e
                  exact hbw
                clear hbb
                have HB2 : Hid (∀ w', Fr [] w w' → BytesAt w' d.a2 d.l2) := hidI (fun w' f => (HD.out i d HDI.out).1.sp.b2.kept f (by simp))
                have HBN : Hid (d.a2 = none → d.l2.length = 0 ∧ d.c2 = 0) := hidI SP5.out.n2
                have HAP : Hid (∀ w' mo j (r1 r2 : Nat) (x1 x2 : Po), Duo w w' r1 x1 r2 x2 → Rf x1 mo j → j ≤ 80 → Calls Tryz.prog 30 #[.pointer (some ⟨r1, 0, none⟩), .agg #[.int .i64 (pg : Int), .int .i64 (o : Int), .slice none 0 0, .slice d.a2 n2 d.c2]] w' fun e w'' => ∃ lsn : Nat, e = .returned (.int .i64 (lsn : Int)) ∧ ∃ y', RApp w' w'' r1 x1 true lsn y' ∧ Duo w w'' r1 { x1 with y := y' } r2 x2) := hidI (fun w' mo j r1 r2 x1 x2 D R hj => by
                  have h1 := duo_app1 D R hj pg o d.l2 d.a2 d.c2 (HB2.out w' D.fr) HBN.out hbw2 (by rw [HN2.out]; omega)
                  rw [HN2.out, hfit] at h1
                  exact h1)
                have HCH : Hid (∀ w' (r1 r2 : Nat) (x1 x2 : Po) (q : Nat) (lsn : Nat), Duo w w' r1 x1 r2 x2 → x1.pages = 30 → 8 ≤ x1.most → (∀ f ∈ x1.fs, f.hd = 0) → 1 ≤ lsn → lsn ≤ x1.y.E → x1.pp = q → Calls Tryz.prog 15 #[.pointer (some ⟨q, 0, none⟩), .agg #[.int .i64 (pg : Int), .int .i64 (o : Int), .slice none 0 0, .slice d.a2 n2 d.c2], .int .i64 (lsn : Int)] w' fun e w'' => e = .returned (.int .i64 0) ∧ ∃ x'', Step w' w'' x1 x'' ∧ Chg x1 x'' pg o d.l2 (lsn : Int) ∧ Duo w w'' r1 x'' r2 x2 ∧ x''.pp = x1.pp) := hidI (fun w' r1 r2 x1 x2 q lsn D h1 h2 h3 h4 h5 h6 => by
                  subst h6
                  have h7 := duo_change D h1 h2 h3 pg o hpg d.l2 d.a2 d.c2 (by rw [HN2.out]; exact g1) (by rw [HN2.out]; omega) (HB2.out w' D.fr) hbw2 lsn h4 h5
                  rw [HN2.out] at h7
                  exact h7)
                go_wp2_with fail
                go_cut [90] from 24 to 128 (fun s90 wx => s90 = .bool false ∧ ∃ (xa' xb' : Po), xa'.pp = ppa ∧ xb'.pp = ppb ∧ Hid (Fw w wx ra xa' rb xb' (i + 1)))
                case first =>
                  have D5d := hidI (D5.out.quiet (Fr.refl [] wc).drew)
                  have s5 : wc.drew.heap[sb]? = some (.cells #[.int .i64 (pg : Int), .int .i64 (o : Int), .slice none 0 0, .slice d.a2 n2 d.c2] 42) := HSB.out.1
                  have hlt5 : sb < wc.drew.heap.size := (Array.getElem?_eq_some_iff.1 s5).1
                  have kk := HKK.out _ _ _ D5d.out hpa hpb s5
                  have HS5 := hidI s5
                  clear s5
                  go_region_held3 (fun w' => w'.cell? ⟨ra, 2, none⟩ = some (.pointer (some ⟨ppa, 0, none⟩)) ∧ w'.cell? ⟨rb, 2, none⟩ = some (.pointer (some ⟨ppb, 0, none⟩)) ∧ w'.cell? ⟨sb, 0, none⟩ = some (.int .i64 (pg : Int)) ∧ w'.cell? ⟨sb, 1, none⟩ = some (.int .i64 (o : Int)) ∧ w'.cell? ⟨sb, 2, none⟩ = some (.slice none 0 0) ∧ w'.cell? ⟨sb, 3, none⟩ = some (.slice d.a2 n2 d.c2)) (exact kk)
                    ((first
                      | (go_at_call 30; with_reducible show Calls Tryz.prog 30 #[Value.pointer (some ⟨ra, 0, none⟩), _] _ _; refine (HAP.out _ 8 i ra rb xa xb D5d.out F4.out.fa (by omega)).mono ?_; rintro e w6 ⟨la, rfl, ya, rap, D6⟩; have s6 := rap.st.fr.same hsa HS5.out; replace kk := HKK.out _ _ _ D6 hpa hpb s6; have RAP := hidI rap; have D6' := hidI D6; have HS6 := hidI s6; clear rap D6 s6)
                      | (go_at_call 15; with_reducible show Calls Tryz.prog 15 #[Value.pointer (some ⟨ppa, 0, none⟩), _, _] _ _; refine (HCH.out _ ra rb { xa with y := ya } xb ppa la D6'.out F4.out.fa.pages (by show 8 ≤ xa.most; rw [F4.out.fa.most]; omega) F4.out.fa.hd (RAP.out.ok rfl) RAP.out.le hpa).mono ?_; rintro e w7 ⟨rfl, xa7, st7, ch7, D7, hp7⟩; have s7 := st7.fr.same (RAP.out.st.out hlt5 hsa) HS6.out; have hpa7 : xa7.pp = ppa := hp7.trans hpa; replace kk := HKK.out _ _ _ D7 hpa7 hpb s7; have ST7 := hidI st7; have CH7 := hidI ch7; have D7' := hidI D7; have HS7 := hidI s7; clear st7 ch7 D7 s7 hp7)
                      | (go_at_call 30; with_reducible show Calls Tryz.prog 30 #[Value.pointer (some ⟨rb, 0, none⟩), _] _ _; refine (HAP.out _ 40 i rb ra xb xa7 D7'.out.swap F4.out.fb (by omega)).mono ?_; rintro e w8 ⟨lb, rfl, yb, rbp, D8⟩; have s8 := rbp.st.fr.same hsb HS7.out; replace kk := HKK.out _ _ _ D8.swap hpa7 hpb s8; have RBP := hidI rbp; have D8' := hidI D8; have HS8 := hidI s8; clear rbp D8 s8)
                      | (go_at_call 15; with_reducible show Calls Tryz.prog 15 #[Value.pointer (some ⟨ppb, 0, none⟩), _, _] _ _; refine (HCH.out _ rb ra { xb with y := yb } xa7 ppb lb D8'.out F4.out.fb.pages (by show 8 ≤ xb.most; rw [F4.out.fb.most]; omega) F4.out.fb.hd (RBP.out.ok rfl) RBP.out.le hpb).mono ?_; rintro e w9 ⟨rfl, xb9, st9, ch9, D9, hp9⟩; have hlt7 : sb < w7.heap.size := (Array.getElem?_eq_some_iff.1 HS7.out).1; have s9 := st9.fr.same (RBP.out.st.out hlt7 hsb) HS8.out; have hpb9 : xb9.pp = ppb := hp9.trans hpb; replace kk := HKK.out _ _ _ D9.swap hpa7 hpb9 s9; have CH9 := hidI ch9; have D9' := hidI D9; clear st9 ch9 D9 s9 hp9)))
                  all_goals
                    have HFW : Hid (Fw w w9 ra xa7 rb xb9 (i + 1)) := hidI ⟨D9'.out.swap, F4.out.fa.chg RAP.out D7'.out.a CH7.out, F4.out.fb.chg RBP.out D9'.out.a CH9.out, F4.out.both.chg F4.out.fa.pages F4.out.fb.pages RAP.out.al RBP.out.al CH7.out CH9.out F4.out.duo.a.po.nod D7'.out.a.po.nod F4.out.duo.b.po.nod D9'.out.a.po.nod⟩
                    go_wp2
                    go_meet
                    exact ⟨rfl, xa7, xb9, hpa7, hpb9, HFW⟩
                case rest =>
                  obtain ⟨rfl, xa7, xb9, hpa7, hpb9, HFW⟩ := hcut
                  go_wp2_with fail
                  go_meet
                  exact ⟨trivial, xa7, xb9, hpa7, hpb9, HFW⟩
          case rest =>
            obtain ⟨-, xa7, xb9, hpa7, hpb9, HFW⟩ := hcut
            have ka : wc.cell? ⟨ra, 2, none⟩ = some (.pointer (some ⟨ppa, 0, none⟩)) := by rw [← hpa7]; exact HFW.out.duo.a.box.c2
            have hwi : IntKind.i64.wrap ((i : Int) + 1) = (i : Int) + 1 := wrapI _ (by omega) (by omega)
            have HR1 := hidI (duo_read HFW.out.duo HFW.out.fa pg hpg)
            rw [hpa7] at HR1
            go_wp2_with fail
            refine HR1.out.mono ?_
            rintro e w5 ⟨g1, rfl, l1, xa8, B1, V1, hg1, st1, rf1, al1, D1, hno1⟩
            have hpa8 : xa8.pp = ppa := al1.2.2.2.1.trans hpa7
            have kb : w5.cell? ⟨rb, 2, none⟩ = some (.pointer (some ⟨ppb, 0, none⟩)) := by rw [← hpb9]; exact D1.b.box.c2
            have HR2 := hidI (duo_read D1.swap HFW.out.fb pg hpg)
            rw [hpb9] at HR2
            have HB1 := hidI B1
            have hg1b : g1 ∉ xb9.own := fun e => by
              have h1 := HFW.out.duo.b.all_lt g1 (by simp [e])
              omega
            have HV1 := hidI V1
            have HAL1 := hidI al1
            have HRF1 := hidI rf1
            clear B1 V1 st1 rf1 al1 D1
            go_wp2_with fail
            refine HR2.out.mono ?_
            rintro e w6 ⟨g2, rfl, l2, xb8, B2, V2, hg2, st2, rf2, al2, D2, hno2⟩
            have hpb8 : xb8.pp = ppb := al2.2.2.2.1.trans hpb9
            have hll : l1 = l2 := by
              obtain ⟨m, m1, m2⟩ := HFW.out.both pg hpg
              exact (Val.uniq HFW.out.duo.a.po.nod HV1.out m1).trans (Val.uniq HFW.out.duo.b.po.nod m2 V2)
            have hlen : l2.length = 512 := V2.len HFW.out.duo.b.po
            have HSM : Hid (Calls Tryz.prog 31 #[.slice (some ⟨g1, 0, none⟩) 512 512, .slice (some ⟨g2, 0, none⟩) 512 512] w6 fun e w' => e = .returned (.bool true) ∧ Fr [] w6 w') := hidI (by
              have B1' : Blk w6 g1 l1 := st2.fr.same hg1b HB1.out
              have h1 := same_any w6 (some ⟨g1, 0, none⟩) (some ⟨g2, 0, none⟩) l1 l2 512 512 512 B1'.bytes B2.bytes (by rw [hll]; exact hlen) hlen (by omega)
              rw [hll, beq_self_eq_true] at h1
              exact h1)
            have HFW8 : Hid (∀ w', Fr [] w6 w' → Fw w w' ra xa8 rb xb8 (i + 1)) := hidI (fun w' f => ⟨D2.swap.quiet f, HRF1.out, rf2, ((HFW.out.both.alike HAL1.out HFW.out.fa.pages).swap.alike al2 HFW.out.fb.pages).swap⟩)
            have HFR : Hid (∀ w', Fr [] w6 w' → w'.cell? ⟨ra, 2, none⟩ = some (.pointer (some ⟨ppa, 0, none⟩)) ∧ Calls Tryz.prog 12 #[.pointer (some ⟨ppa, 0, none⟩)] w' fun e w'' => e = .returned (.int .i64 (xa8.fs.length : Int)) ∧ w'' = w') := hidI (fun w' f => by
              have h1 := (HFW8.out w' f).duo.a
              refine ⟨by rw [← hpa8]; exact h1.box.c2, ?_⟩
              rw [← hpa8]
              exact frames_any h1.po)
            have hle8 : xa8.fs.length ≤ 8 := HRF1.out.le
            have q8 : ¬ 8 < (xa8.fs.length : Int) := by omega
            clear B2 V2 st2 rf2 al2 D2 hll hlen
            go_wp2_with (first
              | (go_at_call 31; refine HSM.out.mono ?_; rintro e w7 ⟨rfl, f7⟩; have k7 := (HFR.out w7 f7).1; have HF7 := hidI f7; have HC7 := hidI (HFR.out w7 f7).2; clear f7)
              | (go_at_call 12; refine HC7.out.mono ?_; rintro e wz ⟨rfl, hz⟩; rw [hz]; clear hz))
            exact ⟨⟨i + 1, xa8, xb8, by omega, by go_num, trivial, trivial, trivial, trivial, trivial, trivial, trivial, hpa8, hpb8, hidI (HFW8.out _ HF7.out)⟩, by simp [intOf]; omega⟩
      · have q1 : ¬ (i : Int) < (n : Int) := by omega
        have ka : wr.cell? ⟨ra, 2, none⟩ = some (.pointer (some ⟨ppa, 0, none⟩)) := by rw [← hpa]; exact HF.out.duo.a.box.c2
        have HR1 := hidI (duo_read HF.out.duo HF.out.fa 0 (by omega))
        rw [hpa] at HR1
        go_wp2_with fail
        refine HR1.out.mono ?_
        rintro e w5 ⟨g1, rfl, l1, xa8, B1, V1, hg1, st1, rf1, al1, D1, hno1⟩
        have hpa8 : xa8.pp = ppa := al1.2.2.2.1.trans hpa
        have ka5 : w5.cell? ⟨ra, 2, none⟩ = some (.pointer (some ⟨ppa, 0, none⟩)) := by rw [← hpa8]; exact D1.a.box.c2
        have HR2 := hidI (duo_read D1 rf1 0 (by omega))
        rw [hpa8] at HR2
        have HB1 := hidI B1
        have hl1 : Hid (l1.length = 512) := hidI (V1.len HF.out.duo.a.po)
        have hwg : w.heap.size ≤ g1 := Nat.le_trans HF.out.duo.fr.size hg1
        have HA5 := hidI D1.a.po
        clear B1 V1 st1 rf1 al1 D1
        go_wp2_with fail
        refine HR2.out.mono ?_
        rintro e w6 ⟨g2, rfl, l2, xa9, B2, V2, hg2, st2, rf2, al2, D2, hno2⟩
        have hl2 : Hid (l2.length = 512) := hidI (V2.len HA5.out)
        have B1' : Blk w6 g1 l1 := st2.fr.same hno1 HB1.out
        have hne : g1 ≠ g2 := by
          have h1 := (Array.getElem?_eq_some_iff.1 HB1.out).1
          omega
        have hwg2 : w.heap.size ≤ g2 := by have h1 := (Array.getElem?_eq_some_iff.1 HB1.out).1; omega
        have HAP := hidI (two_apartB B1' B2 hl1.out hl2.out hne)
        have HF6 := hidI (D2.fr.trans ((Fr.refl [] w6).alloc (.cells #[.slice (some ⟨g1, 0, none⟩) 512 512, .slice (some ⟨g2, 0, none⟩) 512 512] 37)))
        clear B1' B2 V2 st2 rf2 al2 D2
        go_wp2_with fail
        refine HAP.out.mono ?_
        rintro e w7 ⟨rfl, f7⟩
        go_wp2_with fail
        go_ret
        refine ⟨rfl, HF6.out.then f7 (fun k hk hm => ?_)⟩
        simp at hm
        omega
end Go.Proofs.YtplboeplknggbaaGreat
