/-
  A rig that is made: a device, a log in its first twelve blocks, a pool behind it.
-/
import Derived.Test.YtopaeomjndblkaaGreatW03Z
import Derived.Test.YtopaeomjndblkaaGreatW01Z
namespace Go.Proofs.YtopaeomjndblkaaGreat
open Go.RowKit Go.Maps

theorem len_zero (w : World) : Calls Tryz.prog 232 #[.int .u64 0] w fun e w' => ∃ k, e = .returned (.int .i64 k) ∧ w' = w := by
  go_enter Tryz.func232, Tryz.ntmps232
  go_wp2_with (go_at_call 276; refine (len64_zero _).mono ?_; rintro e wz ⟨k, rfl, hz⟩; rw [hz]; clear hz)
  go_ret
  exact ⟨_, rfl, rfl⟩
theorem insert_zero (w : World) (v : Value) : Calls Tryz.prog 267 #[.slice none 0 0, .int .i64 0, .int .i64 0, v] w fun e w' => e = .returned (.tuple #[]) ∧ w' = w := by
  go_enter Tryz.func267, Tryz.ntmps267
  go_wp2_with fail
  go_loopw [8, 9] (fun s8 s9 wr => s8 = .int .i64 1 ∧ wr = w ∧ s9 = s9) (fun _ _ _ => 0)
  case atStart => exact ⟨rfl, rfl, rfl⟩
  case round =>
    obtain ⟨rfl, rfl, -⟩ := hrel
    go_wp2_with fail
    go_end0
    exact ⟨rfl, rfl⟩
set_option maxHeartbeats 1000000 in
theorem pdq_zero (w : World) (k : Int) (v : Value) : Calls Tryz.prog 231 #[.slice none 0 0, .int .i64 0, .int .i64 0, .int .i64 k, v] w fun e w' => e = .returned (.tuple #[]) ∧ w' = w := by
  go_enter Tryz.func231, Tryz.ntmps231
  go_wp2_with fail
  go_loopw [1, 2] (fun s1 s2 wr => s1 = .int .i64 0 ∧ s2 = .int .i64 0 ∧ wr = w) (fun _ _ _ => 0)
  case atStart => exact ⟨rfl, rfl, rfl⟩
  case round =>
    obtain ⟨rfl, rfl, rfl⟩ := hrel
    go_wp2_with (go_at_call 267; refine (insert_zero _ _).mono ?_; rintro e wz ⟨rfl, hz⟩; rw [hz]; clear hz)
    exact bodyPost_ret (results_none Tryz.results231 _ _ _) rfl ⟨rfl, rfl⟩
theorem sort_zero (w : World) (v : Value) : Calls Tryz.prog 188 #[.slice none 0 0, v] w fun e w' => e = .returned (.tuple #[]) ∧ w' = w := by
  go_enter Tryz.func188, Tryz.ntmps188
  go_wp2_with (first
    | (go_at_call 232; refine (len_zero _).mono ?_; rintro e wz ⟨k, rfl, hz⟩; rw [hz]; clear hz)
    | (go_at_call 231; refine (pdq_zero _ _ _).mono ?_; rintro e wz ⟨rfl, hz⟩; rw [hz]; clear hz))
  go_end0
  exact ⟨rfl, rfl⟩
set_option maxHeartbeats 1000000 in
theorem rising_zero {w : World} {x : Po} (h : PoAt w x) (hc : ∀ f ∈ x.fs, f.fst = 0) : Calls Tryz.prog 86 #[.pointer (some ⟨x.pp, 0, none⟩)] w fun e w' => e = .returned (.slice none 0 0) ∧ w' = w := by
  have c5 := h.box.c5
  have r0 : w.cell? ⟨x.pf.rp, 0, none⟩ = some (.slice x.sa x.fs.length x.sc) := h.rn.r0
  have HH := hidI h
  obtain ⟨n, HN⟩ : ∃ n, Hid (x.fs.length = n) := ⟨_, rfl⟩
  rw [HN.out] at r0
  have hn : n ≤ 1024 := by have h1 := h.hl; have h2 := h.m1; have := HN.out; omega
  clear h
  go_enter Tryz.func86, Tryz.ntmps86
  go_wp2_with fail
  go_loopw [3, 14] (fun s3 s14 wr => ∃ i : Nat, i ≤ n ∧ s3 = .slice none 0 0 ∧ s14 = .int .i64 (i : Int) ∧ wr = w) (fun _ s14 _ => n - (intOf s14).toNat)
  case atStart => exact ⟨0, by omega, rfl, rfl, rfl⟩
  case round =>
    obtain ⟨i, hi, rfl, rfl, hwr⟩ := hrel
    subst hwr
    by_cases hlt : i < n
    · have q1 : (i : Int) < (n : Int) := by omega
      have q0 : (0 : Int) ≤ (i : Int) := by omega
      have hwi : IntKind.i64.wrap ((i : Int) + 1) = (i : Int) + 1 := wrapI _ (by omega) (by omega)
      obtain ⟨f, hf⟩ : ∃ f, x.fs[i]? = some f := ⟨_, List.getElem?_eq_getElem (by have := HN.out; omega)⟩
      obtain ⟨g, cur, hsa, hg, hsc, hmx, hsz, htk⟩ := HH.out.rn.at (by have := HN.out; omega)
      have cj := row_cell hg htk hf
      have hdt : decide (0 < f.fst) = false := decide_eq_false (by rw [hc f (List.mem_of_getElem? hf)]; omega)
      have FA := hidI (HH.out.rn.frames f (List.mem_of_getElem? hf))
      clear hg htk hsz
      rw [hsa]
      go_wp2_with (go_at_call 187; refine (dirty_any FA.out).mono ?_; rw [hdt]; rintro e wz ⟨rfl, hz⟩; rw [hz]; clear hz)
      exact ⟨⟨i + 1, by omega, rfl, by go_num, trivial⟩, by simp [intOf]; omega⟩
    · have q1 : ¬ (i : Int) < (n : Int) := by omega
      go_wp2_with (go_at_call 188; refine (sort_zero _ _).mono ?_; rintro e wz ⟨rfl, hz⟩; rw [hz]; clear hz)
      go_ret
      exact ⟨rfl, rfl⟩
theorem Step.lower {w w' : World} {x : Po} (h : PoAt w x) {y' : Lo} (hy : LoAt w' y') {L : List Nat} (f : Fr L w w') (hL : ∀ k ∈ L, k ∈ x.y.own) (how : ∀ k ∈ y'.own, k ∈ x.y.own ∨ w.heap.size ≤ k)
    (hd : y'.d = x.y.d) (hp : y'.p = x.y.p) (hbs : y'.bs = x.y.bs) (hbo : y'.bo = x.y.bo) (hnb : y'.nb = x.y.nb) (hfi : y'.first = x.y.first) (hco : y'.count = x.y.count) (hE : x.y.E ≤ y'.E) (hpg : ∀ q, q < x.pages → pgD x.start y' q = pgD x.start x.y q) (hlw : y'.lw = x.y.lw) : Step w w' x { x with y := y' } := by
  obtain ⟨S, hS, hT⟩ := h.mp
  have hpf : ({ x with y := y' } : Po).pf = x.pf := by
    show Pf.mk y'.d y'.p x.start x.pages x.most x.rp x.mp = Pf.mk x.y.d x.y.p x.start x.pages x.most x.rp x.mp
    rw [hd, hp]
  refine ⟨{ lo := hy, box := ?_, rn := h.rn.kept f (fun k hk e => h.d1 k hk (hL k e)), mp := ⟨S, hS.kept f (fun e => h.d3 (hL _ e)), hT⟩, mne := ?_, nod := h.nod, ok := ?_, hl := h.hl, m0 := h.m0, m1 := h.m1, hh := h.hh, hh0 := h.hh0, p1 := h.p1, area := ?_, dis := ?_, hlw := by show y'.lw ≤ _; rw [hlw]; exact h.hlw }, ?_, ?_⟩
  · rw [hpf]
    exact h.box.kept f (fun e => h.d4 (by simp only [Po.own, List.mem_cons, List.mem_append]; exact Or.inr (Or.inr (hL _ e))))
  · show x.mp ≠ y'.bs ∧ x.mp ≠ y'.bo
    rw [hbs, hbo]
    exact h.mne
  · intro g hg
    have ho := h.ok g hg
    exact { ho with l1 := Int.le_trans ho.l1 (by show (x.y.E : Int) ≤ (y'.E : Int); omega), cl := fun h0 => by show g.l = pgD x.start y' g.pg; rw [hpg g.pg ho.pg]; exact ho.cl h0 }
  · show (x.start : Int) + (x.pages : Int) ≤ y'.nb
    rw [hnb]
    exact h.area
  · show (x.start : Int) + (x.pages : Int) ≤ y'.first ∨ y'.first + y'.count ≤ (x.start : Int)
    rw [hfi, hco]
    exact h.dis
  · exact f.mono (fun k _ hk => by simp only [Po.own, List.mem_cons, List.mem_append]; exact Or.inr (Or.inr (hL k hk)))
  · intro k hk
    have hk2 : k = x.mp ∨ k ∈ ownR x.rp x.sa x.fs ∨ k ∈ y'.own := by simpa [Po.own] using hk
    simp only [Po.own, List.mem_cons, List.mem_append]
    rcases hk2 with h1 | h1 | h1
    · exact Or.inl (Or.inl h1)
    · exact Or.inl (Or.inr (Or.inl h1))
    · rcases how k h1 with h2 | h2
      · exact Or.inl (Or.inr (Or.inr h2))
      · exact Or.inr h2
set_option maxHeartbeats 1000000 in
theorem flush_zero {w : World} {x : Po} (h : PoAt w x) (hc : ∀ f ∈ x.fs, f.fst = 0) : Calls Tryz.prog 72 #[.pointer (some ⟨x.pp, 0, none⟩)] w fun e w' => e = .returned (.int .i64 0) ∧ ∃ y', Step w w' x { x with y := y' } ∧ Kin x.y y' := by
  have HH := hidI h
  clear h
  go_enter Tryz.func72, Tryz.ntmps72
  go_wp2_with (first
    | (go_at_call 75; refine (pmade_yes HH.out.box).mono ?_; rintro e wz ⟨rfl, hz⟩; rw [hz]; clear hz)
    | (go_at_call 86; refine (rising_zero HH.out hc).mono ?_; rintro e wz ⟨rfl, hz⟩; rw [hz]; clear hz))
  refine (cover_any HH.out.box HH.out.lo rfl none 0 0 [] rfl (by omega) (fun i g hg => by simp at hg) (fun g hg => by simp at hg)).mono ?_
  rintro e w2 ⟨rfl, y', L2, FO, hP, hown, f2⟩
  have HL2 := hidI L2
  have b0 : w2.cell? ⟨x.pp, 0, none⟩ = some (.pointer (some ⟨x.y.d, 0, none⟩)) := (HH.out.box.kept f2 (fun e => HH.out.d4 (by simp only [Po.own, Lo.own]; exact List.mem_cons_of_mem _ (List.mem_append_right _ (List.mem_append_left _ e))))).c0
  clear L2
  go_wp2_with fail
  go_loopw [21] (fun s21 wr => s21 = .int .i64 0 ∧ wr = w2) (fun _ _ => 0)
  case atStart => exact ⟨rfl, rfl⟩
  case round =>
    obtain ⟨rfl, hwr⟩ := hrel
    subst hwr
    have hD : Dv.Dev wr x.y.d y'.bs y'.bo y'.nb 0 false y'.S y'.O := by rw [← FO.d]; exact HL2.out.dev
    go_wp2_with fail
    refine (Dv.sync_dev hD rfl).mono ?_
    rintro e w3 ⟨rfl, D3, f3⟩
    go_wp2_with fail
    go_ret
    have f3' := fr_dv f3
    have L2 := HL2.out
    have hne := L2.ne
    have LO : LoAt w3 { y' with S := Dv.over y'.S y'.O, O := Dv.Tab.none } :=
      { L2 with
        dev := by
          rw [← FO.d] at D3
          exact D3
        box := L2.box.kept f3' (by simp only [List.mem_cons, List.not_mem_nil, or_false, not_or]; rw [← FO.d]; exact hne)
        bsA := own0_kept L2.bsA f3' (by rw [← FO.d]; exact dev_types3 L2.dev)
        lsA := own0_kept L2.lsA f3' (by
          intro g hg cur t e et
          subst et
          simp only [List.mem_cons, List.not_mem_nil, or_false] at hg
          rcases hg with rfl | rfl | rfl
          · rw [← FO.d, L2.dev.cells] at e
            cases e
          · obtain ⟨D', ⟨es, clock, hb, _⟩, _⟩ := L2.dev.safe
            rw [hb] at e
            cases e
          · obtain ⟨D', ⟨es, clock, hb, _⟩, _⟩ := L2.dev.opn
            rw [hb] at e
            cases e) }
    refine ⟨rfl, { y' with S := Dv.over y'.S y'.O, O := Dv.Tab.none }, Step.lower HH.out LO ((f2.mono (M := [x.y.p, x.y.d, x.y.bs, x.y.bo]) (fun _ _ e => e)).trans (f3'.mono (fun k _ hk => by rw [FO.bs, FO.bo] at hk; simp at hk ⊢; omega))) (fun k hk => by simp only [Lo.own, List.mem_append]; exact Or.inl hk) hown FO.d FO.p FO.bs FO.bo FO.nb FO.first FO.count (Nat.le_of_eq FO.E.symm) (fun q hq => ?_) FO.lw, FO.kin.sync⟩
    show Dv.latest (Dv.over y'.S y'.O) Dv.Tab.none _ = _
    rw [latest_sync]
    exact FO.pg HH.out.dis hq
set_option maxHeartbeats 1000000 in
theorem pdirty_zero {w : World} {x : Po} (h : PoAt w x) (hc : ∀ f ∈ x.fs, f.fst = 0) : Calls Tryz.prog 21 #[.pointer (some ⟨x.pp, 0, none⟩)] w fun e w' => e = .returned (.slice none 0 0) ∧ w' = w := by
  have HH := hidI h
  clear h
  go_enter Tryz.func21, Tryz.ntmps21
  go_wp2_with (first
    | (go_at_call 75; refine (pmade_yes HH.out.box).mono ?_; rintro e wz ⟨rfl, hz⟩; rw [hz]; clear hz)
    | (go_at_call 86; refine (rising_zero HH.out hc).mono ?_; rintro e wz ⟨rfl, hz⟩; rw [hz]; clear hz))
  go_loopw [3, 12] (fun s3 s12 wr => s3 = .slice none 0 0 ∧ s12 = .int .i64 0 ∧ wr = w) (fun _ _ _ => 0)
  case atStart => exact ⟨rfl, rfl, rfl⟩
  case round =>
    obtain ⟨rfl, rfl, hwr⟩ := hrel
    subst hwr
    go_wp2_with fail
    go_ret
    exact ⟨rfl, rfl⟩
theorem lend_nil (w : World) : Calls Tryz.prog 77 #[.pointer none] w fun e w' => e = .returned (.int .i64 0) ∧ w' = w := by
  go_enter Tryz.func77, Tryz.ntmps77
  go_wp2_with (go_at_call 177; refine (lmade_nil _).mono ?_; rintro e wz ⟨rfl, hz⟩; rw [hz]; clear hz)
  go_ret
  exact ⟨rfl, rfl⟩
theorem new_nil (w : World) (l : Value) (a b c : Int) : Calls Tryz.prog 74 #[.pointer none, l, .int .i64 a, .int .i64 b, .int .i64 c] w fun e w' => e = .returned (.pointer none) ∧ w' = w := by
  go_enter Tryz.func74, Tryz.ntmps74
  go_wp2_with (go_at_call 120; refine (Dv.blocks_none _ _ (nodev_nil _)).mono ?_; rintro e wz ⟨rfl, hz⟩; rw [hz]; clear hz)
  go_ret
  exact ⟨rfl, rfl⟩
set_option maxHeartbeats 1000000 in
theorem new_nolog {w : World} {d bs bo : Nat} {n a : Int} {dn : Bool} {S O : Dv.Tab} (hd : Dv.Dev w d bs bo n a dn S O) (p q r : Int) : Calls Tryz.prog 74 #[.pointer (some ⟨d, 0, none⟩), .pointer none, .int .i64 p, .int .i64 q, .int .i64 r] w fun e w' => e = .returned (.pointer none) ∧ w' = w := by
  have q0 : (n == 0) = false := by have := hd.n1; rw [beq_eq_false_iff_ne]; omega
  go_enter Tryz.func74, Tryz.ntmps74
  go_wp2_with (first
    | (go_at_call 120; refine (Dv.blocks_dev hd).mono ?_; rintro e wz ⟨rfl, hz⟩; rw [hz]; clear hz)
    | (go_at_call 77; refine (lend_nil _).mono ?_; rintro e wz ⟨rfl, hz⟩; rw [hz]; clear hz))
  go_ret
  exact ⟨rfl, rfl⟩
set_option maxHeartbeats 1000000 in
theorem new_area {w : World} {y : Lo} (h : LoAt w y) (p q r : Int) (hq0 : -1000000 ≤ q) (hq1 : q ≤ 1000000) (hbad : p < 0 ∨ q < 1 ∨ y.nb - q < p) : Calls Tryz.prog 74 #[.pointer (some ⟨y.d, 0, none⟩), .pointer (some ⟨y.p, 0, none⟩), .int .i64 p, .int .i64 q, .int .i64 r] w fun e w' => e = .returned (.pointer none) ∧ w' = w := by
  have n1 := h.dev.n1
  have n2 := h.dev.n2
  have q0 : (y.nb == 0) = false := by rw [beq_eq_false_iff_ne]; omega
  have q1 : ((y.E : Int) + 1 == 0) = false := by rw [beq_eq_false_iff_ne]; omega
  have q2 : IntKind.i64.wrap (y.nb - q) = y.nb - q := wrapI _ (by omega) (by omega)
  have HH := hidI h
  clear h
  by_cases h1 : p < 0
  · go_enter Tryz.func74, Tryz.ntmps74
    go_wp2_with (first
      | (go_at_call 120; refine (Dv.blocks_dev HH.out.dev).mono ?_; rintro e wz ⟨rfl, hz⟩; rw [hz]; clear hz)
      | (go_at_call 77; refine (lo_end HH.out).mono ?_; rintro e wz ⟨rfl, hz⟩; rw [hz]; clear hz))
    go_ret
    exact ⟨rfl, rfl⟩
  · by_cases h2 : q < 1
    · go_enter Tryz.func74, Tryz.ntmps74
      go_wp2_with (first
        | (go_at_call 120; refine (Dv.blocks_dev HH.out.dev).mono ?_; rintro e wz ⟨rfl, hz⟩; rw [hz]; clear hz)
        | (go_at_call 77; refine (lo_end HH.out).mono ?_; rintro e wz ⟨rfl, hz⟩; rw [hz]; clear hz))
      go_ret
      exact ⟨rfl, rfl⟩
    · have h3 : y.nb - q < p := by omega
      clear hbad
      go_enter Tryz.func74, Tryz.ntmps74
      go_wp2_with (first
        | (go_at_call 120; refine (Dv.blocks_dev HH.out.dev).mono ?_; rintro e wz ⟨rfl, hz⟩; rw [hz]; clear hz)
        | (go_at_call 77; refine (lo_end HH.out).mono ?_; rintro e wz ⟨rfl, hz⟩; rw [hz]; clear hz))
      go_ret
      exact ⟨rfl, rfl⟩
set_option maxHeartbeats 1000000 in
theorem new_ok {w : World} {y : Lo} (h : LoAt w y) (start pages most : Nat) (h1 : 1 ≤ pages) (h2 : (start : Int) + (pages : Int) ≤ y.nb) (h3 : 8 ≤ most) (h4 : most ≤ 1024) (hdis : (start : Int) + (pages : Int) ≤ y.first ∨ y.first + y.count ≤ (start : Int)) (hlw : y.lw ≤ (start : Int)) : Calls Tryz.prog 74 #[.pointer (some ⟨y.d, 0, none⟩), .pointer (some ⟨y.p, 0, none⟩), .int .i64 (start : Int), .int .i64 (pages : Int), .int .i64 (most : Int)] w fun e w' => ∃ pp rp mp, e = .returned (.pointer (some ⟨pp, 0, none⟩)) ∧ PoAt w' ⟨y, pp, rp, mp, start, pages, most, none, 0, 0, []⟩ ∧ w.heap.size ≤ pp ∧ w.heap.size ≤ rp ∧ w.heap.size ≤ mp ∧ Fr [] w w' := by
  have n1 := h.dev.n1
  have n2 := h.dev.n2
  have q0 : (y.nb == 0) = false := by rw [beq_eq_false_iff_ne]; omega
  have q1 : ((y.E : Int) + 1 == 0) = false := by rw [beq_eq_false_iff_ne]; omega
  have q2 : IntKind.i64.wrap (y.nb - (pages : Int)) = y.nb - (pages : Int) := wrapI _ (by omega) (by omega)
  have q3 : ¬ (start : Int) < 0 := by omega
  have q4 : ¬ (pages : Int) < 1 := by omega
  have q5 : ¬ y.nb - (pages : Int) < (start : Int) := by omega
  have q6 : ¬ (most : Int) < 8 := by omega
  have q7 : ¬ 1024 < (most : Int) := by omega
  have HH := hidI h
  have hmm := @run_makeMap Tryz.prog
  clear h
  go_enter Tryz.func74, Tryz.ntmps74
  go_wp2_with (first
    | (go_at_call 120; refine (Dv.blocks_dev HH.out.dev).mono ?_; rintro e wz ⟨rfl, hz⟩; rw [hz]; clear hz)
    | (go_at_call 77; refine (lo_end HH.out).mono ?_; rintro e wz ⟨rfl, hz⟩; rw [hz]; clear hz))
  go_ret
  obtain ⟨V1, HV1⟩ : ∃ V1, Hid (V1 = Obj.cells #[Value.slice none 0 0, Value.int IntKind.i64 0] 157) := ⟨_, rfl⟩
  obtain ⟨V3, HV3⟩ : ∃ V3, Hid (V3 = Obj.cells #[.pointer (some ⟨y.d, 0, none⟩), .pointer (some ⟨y.p, 0, none⟩), .int .i64 (start : Int), .int .i64 (pages : Int), .int .i64 (most : Int), .pointer (some ⟨w.heap.size, 0, none⟩), .map (some (w.heap.size + 1))] 148) := ⟨_, rfl⟩
  refine ⟨w.heap.size + 2, w.heap.size, w.heap.size + 1, rfl, ?_, by omega, Nat.le_refl _, by omega, (((Fr.refl _ _).alloc _).alloc _).alloc _⟩
  have a1 := heap_alloc_new w (Obj.cells #[Value.slice none 0 0, Value.int IntKind.i64 0] 157)
  have f1 : Fr [] w (w.alloc (Obj.cells #[Value.slice none 0 0, Value.int IntKind.i64 0] 157)) := (Fr.refl [] w).alloc _
  have s1 : (w.alloc (Obj.cells #[Value.slice none 0 0, Value.int IntKind.i64 0] 157)).heap.size = w.heap.size + 1 := by simp
  generalize w.alloc (Obj.cells #[Value.slice none 0 0, Value.int IntKind.i64 0] 157) = w1 at a1 f1 s1 ⊢
  have t2 := pMap.made w1
  rw [s1] at t2
  have f2 : Fr [] w1 (w1.alloc (.map #[] 0)) := (Fr.refl [] w1).alloc _
  have s2 : (w1.alloc (.map #[] 0)).heap.size = w.heap.size + 2 := by simp [s1]
  generalize w1.alloc (.map #[] 0) = w2 at t2 f2 s2 ⊢
  have a3 := heap_alloc_new w2 (.cells #[.pointer (some ⟨y.d, 0, none⟩), .pointer (some ⟨y.p, 0, none⟩), .int .i64 (start : Int), .int .i64 (pages : Int), .int .i64 (most : Int), .pointer (some ⟨w.heap.size, 0, none⟩), .map (some (w.heap.size + 1))] 148)
  have f3 : Fr [] w2 (w2.alloc (.cells #[.pointer (some ⟨y.d, 0, none⟩), .pointer (some ⟨y.p, 0, none⟩), .int .i64 (start : Int), .int .i64 (pages : Int), .int .i64 (most : Int), .pointer (some ⟨w.heap.size, 0, none⟩), .map (some (w.heap.size + 1))] 148)) := (Fr.refl [] w2).alloc _
  rw [s2] at a3
  generalize w2.alloc (.cells #[.pointer (some ⟨y.d, 0, none⟩), .pointer (some ⟨y.p, 0, none⟩), .int .i64 (start : Int), .int .i64 (pages : Int), .int .i64 (most : Int), .pointer (some ⟨w.heap.size, 0, none⟩), .map (some (w.heap.size + 1))] 148) = w3 at a3 f3 ⊢
  have hlt := HH.out.dev.lt
  exact { lo := HH.out.kept ((f1.trans f2).trans f3) (by simp), box := a3, rn := ⟨(f2.trans f3).same (by simp) a1, ⟨by simp [slV], Or.inl ⟨rfl, rfl⟩⟩, fun f hf => (nomatch hf), by simp⟩, mp := ⟨_, t2.kept f3 (by simp), ⟨fun q hq => (nomatch hq), fun k b hk => (nomatch hk)⟩⟩, mne := ⟨by show w.heap.size + 1 ≠ y.bs; omega, by show w.heap.size + 1 ≠ y.bo; omega⟩, nod := by simp [ids], ok := fun f hf => (nomatch hf), hl := by show 0 ≤ most; omega, m0 := h3, m1 := h4, hh := fun e => by have e' : 0 = most := e; omega, hh0 := fun _ => rfl, p1 := h1, area := h2, dis := hdis, hlw := hlw }
end Go.Proofs.YtopaeomjndblkaaGreat

namespace Go.Proofs.YtopaeomjndblkaaGreat
open Go.RowKit Go.Maps

/-- A step of a log. -/
structure LStep (w w' : World) (y y' : Lo) : Prop where
  at' : LoAt w' y'
  fr : Fr y.own w w'
  ow : ∀ k ∈ y'.own, k ∈ y.own ∨ w.heap.size ≤ k
theorem LStep.trans {w w1 w2 : World} {y y1 y2 : Lo} (h : LStep w w1 y y1) (k : LStep w1 w2 y1 y2) : LStep w w2 y y2 :=
  ⟨k.at', h.fr.then k.fr (fun i hi hm => (h.ow i hm).resolve_right (by omega)), fun i hi => (k.ow i hi).elim (fun h1 => h.ow i h1) (fun h1 => Or.inr (Nat.le_trans h.fr.size h1))⟩
theorem LStep.quiet {w w' : World} {y : Lo} (h : LoAt w y) (f : Fr [] w w') : LStep w w' y y := ⟨h.kept f (by simp), f.mono (fun _ _ e => nomatch e), fun k hk => Or.inl hk⟩
/-- What a log is behind whatever append1 does: it has grown, and outside its area the device is as it was. -/
structure Grew (y y' : Lo) : Prop where
  d : y'.d = y.d
  bs : y'.bs = y.bs
  bo : y'.bo = y.bo
  nb : y'.nb = y.nb
  p : y'.p = y.p
  first : y'.first = y.first
  count : y'.count = y.count
  T : y'.T = y.T
  E : y.E ≤ y'.E
  E2 : y'.E ≤ y.E + 1067
  P : y.P ≤ y'.P
  out : Outside y.first y.count y.S y.O y'.S y'.O
  lw : y'.lw = y.lw
theorem LoAt.lsl {w : World} {y : Lo} (h : LoAt w y) : y.ls.length = y.n2 := by
  have h1 := h.lsA.1
  simpa [lsV] using h1
def fitP (blk off : Int) (n : Nat) : Bool := fitsB blk off n
def Rig (w : World) (rg d l : Nat) (p : Value) : Prop := w.heap[rg]? = some (.cells #[.pointer (some ⟨d, 0, none⟩), .pointer (some ⟨l, 0, none⟩), p] 28)
theorem Rig.c0 {w : World} {rg d l : Nat} {p : Value} (h : Rig w rg d l p) : w.cell? ⟨rg, 0, none⟩ = some (.pointer (some ⟨d, 0, none⟩)) := cell_of_row w rg 0 _ _ _ h
theorem Rig.c1 {w : World} {rg d l : Nat} {p : Value} (h : Rig w rg d l p) : w.cell? ⟨rg, 1, none⟩ = some (.pointer (some ⟨l, 0, none⟩)) := cell_of_row w rg 1 _ _ _ h
theorem Rig.c2 {w : World} {rg d l : Nat} {p : Value} (h : Rig w rg d l p) : w.cell? ⟨rg, 2, none⟩ = some p := cell_of_row w rg 2 _ _ _ h
theorem Rig.kept {w w' : World} {rg d l : Nat} {p : Value} {L : List Nat} (h : Rig w rg d l p) (f : Fr L w w') (hL : rg ∉ L) : Rig w' rg d l p := f.same hL h
theorem Rig.own {w : World} {rg d l : Nat} {p : Value} (h : Rig w rg d l p) {y : Lo} (hy : LoAt w y) : rg ∉ y.own := fun e => by
  have h1 := (hy.types rg e).2 _ _ h
  exact absurd h1 (by decide)
/-- The record of a span. -/
def recS (blk off : Int) (l : List UInt8) : Rec := ⟨0, 0, 1, 1, 0, 0, blk, off, l, l⟩
def recC : Rec := ⟨0, 0, 3, 1, 0, 0, 0, 0, [], []⟩
theorem recS_right (blk off : Int) (l : List UInt8) {E T : Nat} (hE : E ≤ 400000) (hT : T < 2147483648) (hT0 : 1 ≤ T) : rightB { recS blk off l with lsn := (E : Int) + 1, turn := (T : Int) } = fitsB blk off l.length := by
  simp [rightB, headB, kindB, recS, placeB]
  intro h
  omega
theorem recC_right {E T : Nat} (hE : E ≤ 400000) (hT : T < 2147483648) (hT0 : 1 ≤ T) : rightB { recC with lsn := (E : Int) + 1, turn := (T : Int) } = true := by
  simp [rightB, headB, kindB, recC, placeB]
  omega
/-- What append1 leaves. -/
def App1 (w w' : World) (y : Lo) (fit : Bool) (lsn : Nat) : Prop := ∃ y', LStep w w' y y' ∧ Grew y y' ∧ lsn ≤ y'.E ∧ (fit = true → 1 ≤ lsn)
set_option maxHeartbeats 2000000 in
set_option maxRecDepth 100000 in
theorem app1_any {w : World} {y : Lo} (h : LoAt w y) {rg : Nat} {pv : Value} (hg : Rig w rg y.d y.p pv) (blk off : Int) (l : List UInt8) (a1 : Option Addr) (n1 c1 : Nat) (ad : Option Addr) (c : Nat) (hb : BytesAt w ad l) (hbn : ad = none → l.length = 0 ∧ c = 0) (hbo : l = [] ∨ ∀ b o, ad = some ⟨b, o, none⟩ → b ∉ y.own) (hlen : l.length ≤ 2000) (hE : y.E + 1067 ≤ 400000) (hT0 : 1 ≤ y.T) (hc12 : y.count = 12) :
    Calls Tryz.prog 70 #[.pointer (some ⟨rg, 0, none⟩), .agg #[.int .i64 blk, .int .i64 off, .slice a1 n1 c1, .slice ad l.length c]] w fun e w' => ∃ lsn : Nat, e = .returned (.int .i64 (lsn : Int)) ∧ App1 w w' y (fitsB blk off l.length) lsn := by
  have f1 : Fr [] w ((w.alloc (.cells #[.int .i64 blk, .int .i64 off, .slice a1 n1 c1, .slice ad l.length c] 42)).alloc (.cells #[.int .i64 0, .int .i64 0, .int .u8 1, .int .i64 1, .int .i64 0, .int .i64 0, .int .i64 blk, .int .i64 off, .slice ad l.length c, .slice ad l.length c] 192)) := ((Fr.refl [] w).alloc _).alloc _
  have rb : RBox ((w.alloc (.cells #[.int .i64 blk, .int .i64 off, .slice a1 n1 c1, .slice ad l.length c] 42)).alloc (.cells #[.int .i64 0, .int .i64 0, .int .u8 1, .int .i64 1, .int .i64 0, .int .i64 0, .int .i64 blk, .int .i64 off, .slice ad l.length c, .slice ad l.length c] 192)) (w.heap.size + 1) (recS blk off l) ⟨ad, c, ad, c⟩ := by
    have h1 := heap_alloc_new (w.alloc (.cells #[.int .i64 blk, .int .i64 off, .slice a1 n1 c1, .slice ad l.length c] 42)) (.cells #[.int .i64 0, .int .i64 0, .int .u8 1, .int .i64 1, .int .i64 0, .int .i64 0, .int .i64 blk, .int .i64 off, .slice ad l.length c, .slice ad l.length c] 192)
    have e1 : (w.alloc (.cells #[.int .i64 blk, .int .i64 off, .slice a1 n1 c1, .slice ad l.length c] 42)).heap.size = w.heap.size + 1 := by simp
    rw [e1] at h1
    exact h1
  have HH := hidI h
  have HT := h.hT
  have HG := hidI hg
  have HB := hidI hb
  have HBN := hidI hbn
  have HBO := hidI hbo
  clear h hg hb hbn hbo
  go_enter Tryz.func70, Tryz.ntmps70
  go_wp2_with fail
  generalize ((w.alloc (.cells #[.int .i64 blk, .int .i64 off, .slice a1 n1 c1, .slice ad l.length c] 42)).alloc (.cells #[.int .i64 0, .int .i64 0, .int .u8 1, .int .i64 1, .int .i64 0, .int .i64 0, .int .i64 blk, .int .i64 off, .slice ad l.length c, .slice ad l.length c] 192)) = w1 at f1 rb ⊢
  obtain ⟨Z, HZ⟩ : ∃ Z, Hid (w.heap.size + 1 = Z) := ⟨_, rfl⟩
  rw [HZ.out] at rb ⊢
  obtain ⟨Z0, HZ0⟩ : ∃ Z0, Hid (w.heap.size = Z0) := ⟨_, rfl⟩
  rw [HZ0.out]
  have g1 : w1.cell? ⟨rg, 1, none⟩ = some (.pointer (some ⟨y.p, 0, none⟩)) := (HG.out.kept f1 (by simp)).c1
  have H1 := hidI (HH.out.kept f1 (by simp))
  have B1 := hidI (HB.out.kept f1 (by simp))
  have RB1 := hidI rb
  have x0 : w1.cell? ⟨Z, 0, none⟩ = some (.int .i64 0) := rb.c0
  have x1 : w1.cell? ⟨Z, 1, none⟩ = some (.int .i64 0) := rb.c1
  have x2 : w1.cell? ⟨Z, 2, none⟩ = some (.int .u8 1) := rb.c2
  have x3 : w1.cell? ⟨Z, 3, none⟩ = some (.int .i64 1) := rb.c3
  have x4 : w1.cell? ⟨Z, 4, none⟩ = some (.int .i64 0) := rb.c4
  have x5 : w1.cell? ⟨Z, 5, none⟩ = some (.int .i64 0) := rb.c5
  have x6 : w1.cell? ⟨Z, 6, none⟩ = some (.int .i64 blk) := rb.c6
  have x7 : w1.cell? ⟨Z, 7, none⟩ = some (.int .i64 off) := rb.c7
  have x8 : w1.cell? ⟨Z, 8, none⟩ = some (.slice ad l.length c) := rb.c8
  have x9 : w1.cell? ⟨Z, 9, none⟩ = some (.slice ad l.length c) := rb.c9
  clear rb
  have hsp : ∀ wx, Fr [] w1 wx → SpotsAt wx (recS blk off l) ⟨ad, c, ad, c⟩ := fun wx fx => ⟨B1.out.kept fx (by simp), B1.out.kept fx (by simp), HBN.out, HBN.out⟩
  have HSP := hidI hsp
  clear hsp
  cases hfit : fitsB blk off l.length with
  | true =>
    have hr : rightB { recS blk off l with lsn := (y.E : Int) + 1, turn := (y.T : Int) } = true := by rw [recS_right blk off l (by omega) HT hT0]; exact hfit
    have hbb := body_bounds hr
    have hel := encL_length { recS blk off l with lsn := (y.E : Int) + 1, turn := (y.T : Int) }
    obtain ⟨N, HN⟩ : ∃ N, Hid ((encL { recS blk off l with lsn := (y.E : Int) + 1, turn := (y.T : Int) }).length = N) := ⟨_, rfl⟩
    have hN : 35 ≤ N ∧ N ≤ 1067 := by rw [← HN.out, hel]; omega
    clear hbb hel
    by_cases hroom : (N : Int) ≤ 408 * (y.count - 1) - ((y.E : Int) - (y.A : Int))
    · go_region_law ((go_simp; go_at_call 170; refine (lo_append (H1.out.kept (Fr.refl [] w1).drew (by simp)) (recS blk off l) ⟨ad, c, ad, c⟩ (HSP.out _ (Fr.refl [] w1).drew) hr HN.out hroom (by omega)).mono ?_; rintro e w3 ⟨rfl, y', L3, A3, O3, f3⟩))
      all_goals
        have LS : LStep w w3 y y' := (LStep.quiet HH.out (f1.trans (Fr.refl [] w1).drew)).trans ⟨L3, f3, O3⟩
        have GR : Grew y y' := ⟨A3.d, A3.bs, A3.bo, A3.nb, A3.p, A3.first, A3.count, A3.T, by rw [A3.E]; omega, by rw [A3.E]; omega, Nat.le_of_eq A3.P.symm, by rw [A3.S, A3.O]; exact Outside.refl _ _ _ _, A3.lw⟩
        have hEE := hidI A3.E
        clear L3 A3 O3 f3
        go_wp2_with fail
        go_ret
        exact ⟨y.E + 1, by go_num, y', LS, GR, by rw [hEE.out]; omega, fun _ => by omega⟩
    · have hno : 408 * (y.count - 1) - ((y.E : Int) - (y.A : Int)) < ((encL { recS blk off l with lsn := (y.E : Int) + 1, turn := (y.T : Int) }).length : Int) := by rw [HN.out]; omega
      go_cut [6, 7] from 8 (fun s6 s7 wx => s6 = .int .i64 0 ∧ s7 = .int .i64 5 ∧ Fr [] w1 wx)
      case first =>
        go_region_law ((go_simp; go_at_call 170; refine (lo_append_no (H1.out.kept (Fr.refl [] w1).drew (by simp)) (recS blk off l) ⟨ad, c, ad, c⟩ (HSP.out _ (Fr.refl [] w1).drew) (by show l.length ≤ 1000000; omega) 5 (Or.inr ⟨hr, hno, rfl⟩)).mono ?_; rintro e w3 ⟨rfl, f3⟩))
        all_goals
          go_wp2_with fail
          go_meet
          exact ⟨rfl, rfl, (Fr.refl [] w1).drew.trans f3⟩
      case rest =>
        obtain ⟨rfl, rfl, f13⟩ := hcut
        have H3 := hidI (H1.out.kept f13 (by simp))
        have k1 : wc.cell? ⟨rg, 1, none⟩ = some (.pointer (some ⟨y.p, 0, none⟩)) := (HG.out.kept (f1.trans f13) (by simp)).c1
        go_wp2_with fail
        have H3d := hidI (H3.out.kept (Fr.refl [] wc).drew (by simp))
        go_cut [47] from 29 (fun s47 wx => s47 = .bool false ∧ ∃ y5, Hid (LStep w1 wx y y5 ∧ Grew y y5 ∧ y5.E = y.E ∧ y5.A = y.E))
        case first =>
          obtain ⟨W0, HW0⟩ : ∃ W0, Hid (W0 = wc) := ⟨_, rfl⟩
          have gg : Fr [] W0 wc.drew := (by rw [HW0.out]; exact (Fr.refl _ _).drew)
          have SK : Hid (∀ w', Fr [] W0 w' → w'.cell? ⟨rg, 1, none⟩ = some (.pointer (some ⟨y.p, 0, none⟩))) := hidI (fun w' f => (HG.out.kept (f1.trans (f13.trans (by rw [HW0.out] at f; exact f))) (by simp)).c1)
          have k0 := SK.out _ gg
          go_region_held3 (fun w' => w'.cell? ⟨rg, 1, none⟩ = some (.pointer (some ⟨y.p, 0, none⟩))) (first | exact SK.out _ gg | exact k4 | exact k5)
            ((first
              | (go_at_call 84; refine (lo_force H3d.out).mono ?_; rintro e w4 ⟨rfl, y4, L4, F4, P4, O4, f4⟩; have LS4 : LStep w1 w4 y y4 := (LStep.quiet H1.out (f13.trans (Fr.refl [] wc).drew)).trans ⟨L4, f4.mono (fun k _ hk => by simp only [Lo.own, List.mem_append]; exact Or.inl hk), O4⟩; have k4 : w4.cell? ⟨rg, 1, none⟩ = some (.pointer (some ⟨y.p, 0, none⟩)) := ((HG.out.kept f1 (by simp)).kept LS4.fr (HG.out.own HH.out)).c1; have L4' := hidI L4; have F4' := hidI F4; have P4' := hidI P4; have LS4' := hidI LS4; have hp4 := hidI F4.p; clear L4 F4 P4 LS4)
              | (go_at_call 77; have E4 := lo_end L4'.out; rw [hp4.out] at E4; refine E4.mono ?_; clear E4; rintro e wz ⟨rfl, hz⟩; rw [hz]; clear hz)
              | (go_at_call 119; have E4 := lo_trim L4'.out L4'.out.lsl y4.E L4'.out.hAE (Nat.le_refl _) (fun _ _ => Or.inr rfl); rw [hp4.out] at E4; refine E4.mono ?_; clear E4; rintro e w5 ⟨rfl, y5, i5, L5, T5, _, _, _, O5, f5⟩; have k5 : w5.cell? ⟨rg, 1, none⟩ = some (.pointer (some ⟨y.p, 0, none⟩)) := ((HG.out.kept f1 (by simp)).kept (LS4'.out.trans ⟨L5, f5.mono (fun k _ hk => by simp only [Lo.own, List.mem_append]; left; simp at hk; simp [hk, hp4.out]), O5⟩).fr (HG.out.own HH.out)).c1)))
          all_goals
            go_wp2_with fail
            go_meet
            refine ⟨rfl, y5, hidI ⟨LS4'.out.trans ⟨L5, f5.mono (fun k _ hk => by simp only [Lo.own, List.mem_append]; left; simp at hk; simp [hk, hp4.out]), O5⟩, ?_, ?_, ?_⟩⟩
            · have F := F4'.out
              exact ⟨T5.d.trans F.d, T5.bs.trans F.bs, T5.bo.trans F.bo, T5.nb.trans F.nb, T5.p.trans F.p, T5.first.trans F.first, T5.count.trans F.count, T5.T.trans F.T, by rw [T5.E, F.E]; exact Nat.le_refl _, by rw [T5.E, F.E]; omega, by rw [T5.P]; exact F.P, by rw [T5.S, T5.O]; exact F.out, T5.lw.trans F.lw⟩
            · rw [T5.E, F4'.out.E]
            · rw [T5.A, F4'.out.E]
        case rest =>
          obtain ⟨rfl, y5, HC5⟩ := hcut
          obtain ⟨LS5, G5, e5, a5⟩ := HC5.out
          have hp5 := hidI G5.p
          have hZ : Z ∉ y.own := fun e => by
            have := (HH.out.types Z e).1
            have := HZ.out
            omega
          have R5 := RB1.out.kept LS5.fr hZ
          have B5 : Hid (BytesAt wc ad l) := hidI (by
            rcases HBO.out with e | e
            · rw [e]
              exact BytesAt.nil _ _
            · exact B1.out.kept LS5.fr e)
          have k5 : wc.cell? ⟨rg, 1, none⟩ = some (.pointer (some ⟨y.p, 0, none⟩)) := ((HG.out.kept f1 (by simp)).kept LS5.fr (HG.out.own HH.out)).c1
          have x0 : wc.cell? ⟨Z, 0, none⟩ = some (.int .i64 0) := R5.c0
          have x1 : wc.cell? ⟨Z, 1, none⟩ = some (.int .i64 0) := R5.c1
          have x2 : wc.cell? ⟨Z, 2, none⟩ = some (.int .u8 1) := R5.c2
          have x3 : wc.cell? ⟨Z, 3, none⟩ = some (.int .i64 1) := R5.c3
          have x4 : wc.cell? ⟨Z, 4, none⟩ = some (.int .i64 0) := R5.c4
          have x5 : wc.cell? ⟨Z, 5, none⟩ = some (.int .i64 0) := R5.c5
          have x6 : wc.cell? ⟨Z, 6, none⟩ = some (.int .i64 blk) := R5.c6
          have x7 : wc.cell? ⟨Z, 7, none⟩ = some (.int .i64 off) := R5.c7
          have x8 : wc.cell? ⟨Z, 8, none⟩ = some (.slice ad l.length c) := R5.c8
          have x9 : wc.cell? ⟨Z, 9, none⟩ = some (.slice ad l.length c) := R5.c9
          have HL5 := hidI LS5
          have HG5 := hidI G5
          have HAP : Hid (Calls Tryz.prog 170 #[.pointer (some ⟨y.p, 0, none⟩), .agg (recV (recS blk off l) ⟨ad, c, ad, c⟩)] wc.drew fun e w' => e = .returned (.tuple #[.int .i64 ((y.E : Int) + 1), .int .i64 0]) ∧ ∃ y', LoAt w' y' ∧ Appd y5 y' N (recS blk off l) ∧ (∀ k ∈ y'.own, k ∈ y5.own ∨ wc.drew.heap.size ≤ k) ∧ Fr y5.own wc.drew w') := by
            have h1 := lo_append (LS5.at'.kept (Fr.refl [] wc).drew (by simp)) (recS blk off l) ⟨ad, c, ad, c⟩ ⟨B5.out.kept (Fr.refl [] wc).drew (by simp), B5.out.kept (Fr.refl [] wc).drew (by simp), HBN.out, HBN.out⟩ (by rw [e5, G5.T]; exact hr) (N := N) (by rw [e5, G5.T]; exact HN.out) (by rw [G5.count, e5, a5, hc12]; omega) (by rw [e5]; omega)
            rw [G5.p, e5] at h1
            exact hidI h1
          have HE5 := hidI e5
          clear R5 LS5 G5 e5 a5 HC5
          go_wp2_with fail
          go_region_law ((go_simp; go_at_call 170; refine HAP.out.mono ?_; rintro e w6 ⟨rfl, y6, L6, A6, O6, f6⟩))
          all_goals
            have LS : LStep w w6 y y6 := (LStep.quiet HH.out f1).trans (HL5.out.trans ((LStep.quiet HL5.out.at' (Fr.refl [] wc).drew).trans ⟨L6, f6, O6⟩))
            have GR : Grew y y6 := by
              have G := HG5.out
              exact ⟨A6.d.trans G.d, A6.bs.trans G.bs, A6.bo.trans G.bo, A6.nb.trans G.nb, A6.p.trans G.p, A6.first.trans G.first, A6.count.trans G.count, A6.T.trans G.T, by rw [A6.E, HE5.out]; omega, by rw [A6.E, HE5.out]; omega, by rw [A6.P]; exact G.P, by rw [A6.S, A6.O]; exact G.out, A6.lw.trans G.lw⟩
            have hEE := hidI A6.E
            clear L6 A6 O6 f6
            go_wp2_with fail
            go_ret
            exact ⟨y.E + 1, by go_num, y6, LS, GR, by rw [hEE.out, HE5.out]; omega, fun _ => by omega⟩
  | false =>
    have hr : rightB { recS blk off l with lsn := (y.E : Int) + 1, turn := (y.T : Int) } = false := by rw [recS_right blk off l (by omega) HT hT0]; exact hfit
    go_cut [6, 7] from 8 (fun s6 s7 wx => s6 = .int .i64 0 ∧ s7 = .int .i64 4 ∧ Fr [] w1 wx)
    case first =>
      go_region_law ((go_simp; go_at_call 170; refine (lo_append_no (H1.out.kept (Fr.refl [] w1).drew (by simp)) (recS blk off l) ⟨ad, c, ad, c⟩ (HSP.out _ (Fr.refl [] w1).drew) (by show l.length ≤ 1000000; omega) 4 (Or.inl ⟨hr, rfl⟩)).mono ?_; rintro e w3 ⟨rfl, f3⟩))
      all_goals
        go_wp2_with fail
        go_meet
        exact ⟨rfl, rfl, (Fr.refl [] w1).drew.trans f3⟩
    case rest =>
      obtain ⟨rfl, rfl, f13⟩ := hcut
      have H3 := hidI (H1.out.kept f13 (by simp))
      have k1 : wc.cell? ⟨rg, 1, none⟩ = some (.pointer (some ⟨y.p, 0, none⟩)) := (HG.out.kept (f1.trans f13) (by simp)).c1
      have hrc : rightB { recC with lsn := (y.E : Int) + 1, turn := (y.T : Int) } = true := recC_right (by omega) HT hT0
      have hel := encL_length { recC with lsn := (y.E : Int) + 1, turn := (y.T : Int) }
      have hbl := bodyL_length { recC with lsn := (y.E : Int) + 1, turn := (y.T : Int) }
      have hNN : (encL { recC with lsn := (y.E : Int) + 1, turn := (y.T : Int) }).length = 35 := by rw [hel, hbl]; rfl
      have hspc : SpotsAt wc recC ⟨none, 0, none, 0⟩ := ⟨fun j v hv => by simp [recC, arr] at hv, fun j v hv => by simp [recC, arr] at hv, fun _ => ⟨rfl, rfl⟩, fun _ => ⟨rfl, rfl⟩⟩
      have HNN := hidI hNN
      clear hel hbl hNN
      by_cases hroom : (35 : Int) ≤ 408 * (y.count - 1) - ((y.E : Int) - (y.A : Int))
      · go_wp2_with fail
        refine (lo_append H3.out recC ⟨none, 0, none, 0⟩ hspc hrc HNN.out hroom (by omega)).mono ?_
        rintro e w6 ⟨rfl, y6, L6, A6, O6, f6⟩
        have LS : LStep w w6 y y6 := (LStep.quiet HH.out (f1.trans f13)).trans ⟨L6, f6, O6⟩
        have GR : Grew y y6 := ⟨A6.d, A6.bs, A6.bo, A6.nb, A6.p, A6.first, A6.count, A6.T, by rw [A6.E]; omega, by rw [A6.E]; omega, Nat.le_of_eq A6.P.symm, by rw [A6.S, A6.O]; exact Outside.refl _ _ _ _, A6.lw⟩
        have hEE := hidI A6.E
        clear L6 A6 O6 f6
        go_wp2_with fail
        go_ret
        exact ⟨y.E + 1, by go_num, y6, LS, GR, by rw [hEE.out]; omega, fun _ => by omega⟩
      · go_wp2_with fail
        refine (lo_append_no H3.out recC ⟨none, 0, none, 0⟩ hspc (by show (0 : Nat) ≤ 1000000; omega) 5 (Or.inr ⟨hrc, by rw [HNN.out]; omega, rfl⟩)).mono ?_
        rintro e w6 ⟨rfl, f6⟩
        have LS : LStep w w6 y y := LStep.quiet HH.out ((f1.trans f13).trans f6)
        clear f6
        go_wp2_with fail
        go_ret
        exact ⟨0, by go_num, y, LS, ⟨rfl, rfl, rfl, rfl, rfl, rfl, rfl, rfl, Nat.le_refl _, by omega, Nat.le_refl _, Outside.refl _ _ _ _, rfl⟩, by omega, fun h => by rw [hfit] at h; cases h⟩
end Go.Proofs.YtopaeomjndblkaaGreat

namespace Go.Proofs.YtopaeomjndblkaaGreat
open Go.RowKit Go.Maps

/-- A log that was opened on a device without anything. -/
def lo0 (d bs bo : Nat) (nb : Int) (p : Nat) (count : Int) : Lo := ⟨d, bs, bo, nb, Dv.Tab.none, Dv.Tab.none, p, 0, count, 1, 0, 0, 0, 0, 0, 0, none, 0, 0, none, [], [], 0⟩
theorem lo0_at {w : World} {d bs bo : Nat} {nb : Int} (hd : Dv.Dev w d bs bo nb 0 false Dv.Tab.none Dv.Tab.none) {p : Nat} {count : Int} (hc : 4 ≤ count) (hn : count ≤ nb) (hb : LBox w p ⟨.pointer (some ⟨d, 0, none⟩), 0, count, 1, 1, 1, 1, .slice none 0 0, 1, .slice none 0 0⟩) : LoAt w (lo0 d bs bo nb p count) :=
  { dev := hd, box := hb, bsA := BsAt.nil w, lsA := LsAt.nil w, lbl := rfl, hn := rfl, hFP := Nat.le_refl _, hPE := Nat.le_refl _, hFA := Nat.le_refl _, hAE := Nat.le_refl _, hE := by show (0 : Nat) ≤ 400000; omega, h2 := Nat.le_refl _, hT := by show (1 : Nat) < 2147483648; omega, f0 := Int.le_refl _, f1 := by show (0 : Int) + count ≤ nb; omega, c0 := hc, hlw := Int.le_refl _ }
theorem st_none (k : Int) : stampP ((Dv.latest Dv.Tab.none Dv.Tab.none k).take 64) ≠ 1 := by
  have h : Dv.latest Dv.Tab.none Dv.Tab.none k = Dv.zeros := rfl
  rw [h]
  have h2 : stampP (Dv.zeros.take 64) = 0 := by kernel_rfl
  rw [h2]
  omega
def po0 (d bs bo : Nat) (nb : Int) (p pp rp mp start pages most : Nat) (count : Int) : Po := ⟨lo0 d bs bo nb p count, pp, rp, mp, start, pages, most, none, 0, 0, []⟩
/-- A rig in memory, and its pool. -/
structure RigAt (w : World) (rg : Nat) (x : Po) : Prop where
  box : Rig w rg x.y.d x.y.p (.pointer (some ⟨x.pp, 0, none⟩))
  po : PoAt w x
  ne : rg ∉ x.pp :: x.own
theorem RigAt.kept {w w' : World} {rg : Nat} {x : Po} {L : List Nat} (h : RigAt w rg x) (f : Fr L w w') (h0 : rg ∉ L) (hL : ∀ k ∈ x.pp :: x.own, k ∉ L) : RigAt w' rg x := ⟨h.box.kept f h0, h.po.kept f hL, h.ne⟩
set_option maxHeartbeats 1000000 in
set_option maxRecDepth 100000 in
theorem begin_ok (w : World) (pages most : Nat) (h1 : 1 ≤ pages) (h2 : pages ≤ 1000) (h3 : 8 ≤ most) (h4 : most ≤ 1024) :
    Calls Tryz.prog 16 #[.int .i64 (pages : Int), .int .i64 (most : Int)] w fun e w' => ∃ rg d bs bo p pp rp mp, e = .returned (.pointer (some ⟨rg, 0, none⟩)) ∧ RigAt w' rg (po0 d bs bo (12 + (pages : Int)) p pp rp mp 12 pages most 12) ∧ (∀ k ∈ rg :: pp :: (po0 d bs bo (12 + (pages : Int)) p pp rp mp 12 pages most 12).own, w.heap.size ≤ k) ∧ Fr [] w w' := by
  have q1 : IntKind.i64.wrap (12 + (pages : Int)) = 12 + (pages : Int) := wrapI _ (by omega) (by omega)
  go_enter Tryz.func16, Tryz.ntmps16
  go_wp2_with fail
  refine (Dv.new_dev (12 + (pages : Int)) w (by omega) (by omega)).mono ?_
  rintro e w1 ⟨rfl, D1, f1⟩
  have f1' : Fr [] w w1 := fr_dv f1
  obtain ⟨d, hd⟩ : ∃ d, d = w.heap.size + 2 := ⟨_, rfl⟩
  obtain ⟨bo, hbo⟩ : ∃ bo, bo = w.heap.size + 1 := ⟨_, rfl⟩
  rw [← hd, ← hbo] at D1
  rw [← hd]
  have HD := hidI hd
  have HBO := hidI hbo
  have D1' := hidI D1
  clear hd hbo D1 f1
  go_wp2_with fail
  refine (open_zero w1 d w.heap.size bo (12 + (pages : Int)) 0 Dv.Tab.none Dv.Tab.none D1'.out 0 12 1 (by omega) (by omega) (by omega) (by omega) (by omega) (st_none 0)).mono ?_
  rintro e w2 ⟨p, rfl, L2, hp2, f2⟩
  have A2 := hidI (lo0_at (dev_kept D1'.out f2 (by simp) (by simp) (by simp)) (by omega) (by omega) L2)
  go_wp2_with fail
  refine (new_ok A2.out 12 pages most h1 (by show (12 : Int) + (pages : Int) ≤ 12 + (pages : Int); omega) h3 h4 (by right; show (0 : Int) + 12 ≤ 12; omega) (by show (0 : Int) ≤ 12; omega)).mono ?_
  rintro e w3 ⟨pp, rp, mp, rfl, P3, hpp, hrp, hmp, f3⟩
  have hsz := f1'.size
  have hsz2 := f2.size
  have P3' := hidI P3
  have f4 : Fr [] w3 (w3.alloc (.cells #[.pointer (some ⟨d, 0, none⟩), .pointer (some ⟨p, 0, none⟩), .pointer (some ⟨pp, 0, none⟩)] 28)) := (Fr.refl [] w3).alloc _
  have b4 := heap_alloc_new w3 (.cells #[.pointer (some ⟨d, 0, none⟩), .pointer (some ⟨p, 0, none⟩), .pointer (some ⟨pp, 0, none⟩)] 28)
  clear P3 L2
  go_wp2_with fail
  go_ret
  refine ⟨w3.heap.size, d, w.heap.size, bo, p, pp, rp, mp, rfl, ⟨b4, P3'.out.kept f4 (by simp), fun e => ?_⟩, ?_, ((f1'.trans f2).trans f3).trans f4⟩
  · have := P3'.out.lt _ e
    omega
  · have e1 := HD.out
    have e2 := HBO.out
    have e3 := f3.size
    intro k hk
    simp [Po.own, po0, ownR, lo0, Lo.own, Value.ownBlock] at hk
    omega
end Go.Proofs.YtopaeomjndblkaaGreat

