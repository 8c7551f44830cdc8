/-
  The order of frames: what the pool's sort compares.
-/
import Derived.Test.YtplboeplknggbaaGreatXU2
import Derived.Test.YtplboeplknggbaaGreatXU5
namespace Go.Proofs.YtplboeplknggbaaGreat
open Go.RowKit Go.Maps

/-- A step of a log. -/
structure LStep (w w' : World) (y y' : Lo) : Prop where
  at' : LoAt w' y'
  fr : Fr y.own w w'
  ow : ∀ k ∈ y'.own, k ∈ y.own ∨ w.heap.size ≤ k
theorem LStep.trans {w w1 w2 : World} {y y1 y2 : Lo} (h : LStep w w1 y y1) (k : LStep w1 w2 y1 y2) : LStep w w2 y y2 :=
  ⟨k.at', h.fr.then k.fr (fun i hi hm => (h.ow i hm).resolve_right (by omega)), fun i hi => (k.ow i hi).elim (fun h1 => h.ow i h1) (fun h1 => Or.inr (Nat.le_trans h.fr.size h1))⟩
theorem LStep.quiet {w w' : World} {y : Lo} (h : LoAt w y) (f : Fr [] w w') : LStep w w' y y := ⟨h.kept f (by simp), f.mono (fun _ _ e => nomatch e), fun k hk => Or.inl hk⟩
/-- What a log is behind whatever append1 does: it has grown, and outside its area the device is as it was. -/
structure Grew (y y' : Lo) : Prop where
  d : y'.d = y.d
  bs : y'.bs = y.bs
  bo : y'.bo = y.bo
  nb : y'.nb = y.nb
  p : y'.p = y.p
  first : y'.first = y.first
  count : y'.count = y.count
  T : y'.T = y.T
  E : y.E ≤ y'.E
  E2 : y'.E ≤ y.E + 1067
  P : y.P ≤ y'.P
  out : Outside y.first y.count y.S y.O y'.S y'.O
theorem LoAt.lsl {w : World} {y : Lo} (h : LoAt w y) : y.ls.length = y.n2 := by
  have h1 := h.lsA.1
  simpa [lsV] using h1
def fitP (blk off : Int) (n : Nat) : Bool := fitsB blk off n
def Rig (w : World) (rg d l : Nat) (p : Value) : Prop := w.heap[rg]? = some (.cells #[.pointer (some ⟨d, 0, none⟩), .pointer (some ⟨l, 0, none⟩), p] 28)
theorem Rig.c0 {w : World} {rg d l : Nat} {p : Value} (h : Rig w rg d l p) : w.cell? ⟨rg, 0, none⟩ = some (.pointer (some ⟨d, 0, none⟩)) := cell_of_row w rg 0 _ _ _ h
theorem Rig.c1 {w : World} {rg d l : Nat} {p : Value} (h : Rig w rg d l p) : w.cell? ⟨rg, 1, none⟩ = some (.pointer (some ⟨l, 0, none⟩)) := cell_of_row w rg 1 _ _ _ h
theorem Rig.c2 {w : World} {rg d l : Nat} {p : Value} (h : Rig w rg d l p) : w.cell? ⟨rg, 2, none⟩ = some p := cell_of_row w rg 2 _ _ _ h
theorem Rig.kept {w w' : World} {rg d l : Nat} {p : Value} {L : List Nat} (h : Rig w rg d l p) (f : Fr L w w') (hL : rg ∉ L) : Rig w' rg d l p := f.same hL h
theorem Rig.own {w : World} {rg d l : Nat} {p : Value} (h : Rig w rg d l p) {y : Lo} (hy : LoAt w y) : rg ∉ y.own := fun e => by
  have h1 := (hy.types rg e).2 _ _ h
  exact absurd h1 (by decide)
/-- The record of a span. -/
def recS (blk off : Int) (l : List UInt8) : Rec := ⟨0, 0, 1, 1, 0, 0, blk, off, l, l⟩
def recC : Rec := ⟨0, 0, 3, 1, 0, 0, 0, 0, [], []⟩
theorem recS_right (blk off : Int) (l : List UInt8) {E T : Nat} (hE : E ≤ 400000) (hT : T < 2147483648) (hT0 : 1 ≤ T) : rightB { recS blk off l with lsn := (E : Int) + 1, turn := (T : Int) } = fitsB blk off l.length := by
  simp [rightB, headB, kindB, recS, placeB]
  intro h
  omega
theorem recC_right {E T : Nat} (hE : E ≤ 400000) (hT : T < 2147483648) (hT0 : 1 ≤ T) : rightB { recC with lsn := (E : Int) + 1, turn := (T : Int) } = true := by
  simp [rightB, headB, kindB, recC, placeB]
  omega
/-- What append1 leaves. -/
def App1 (w w' : World) (y : Lo) (fit : Bool) (lsn : Nat) : Prop := ∃ y', LStep w w' y y' ∧ Grew y y' ∧ lsn ≤ y'.E ∧ (fit = true → 1 ≤ lsn)
set_option maxHeartbeats 2000000 in
set_option maxRecDepth 100000 in
theorem app1_any {w : World} {y : Lo} (h : LoAt w y) {rg : Nat} {pv : Value} (hg : Rig w rg y.d y.p pv) (blk off : Int) (l : List UInt8) (a1 : Option Addr) (n1 c1 : Nat) (ad : Option Addr) (c : Nat) (hb : BytesAt w ad l) (hbn : ad = none → l.length = 0 ∧ c = 0) (hbo : ∀ b o, ad = some ⟨b, o, none⟩ → b ∉ y.own) (hlen : l.length ≤ 2000) (hE : y.E + 1067 ≤ 400000) (hT0 : 1 ≤ y.T) (hc12 : y.count = 12) :
    Calls Tryz.prog 30 #[.pointer (some ⟨rg, 0, none⟩), .agg #[.int .i64 blk, .int .i64 off, .slice a1 n1 c1, .slice ad l.length c]] w fun e w' => ∃ lsn : Nat, e = .returned (.int .i64 (lsn : Int)) ∧ App1 w w' y (fitsB blk off l.length) lsn := by
  have f1 : Fr [] w ((w.alloc (.cells #[.int .i64 blk, .int .i64 off, .slice a1 n1 c1, .slice ad l.length c] 42)).alloc (.cells #[.int .i64 0, .int .i64 0, .int .u8 1, .int .i64 1, .int .i64 0, .int .i64 0, .int .i64 blk, .int .i64 off, .slice ad l.length c, .slice ad l.length c] 76)) := ((Fr.refl [] w).alloc _).alloc _
  have rb : RBox ((w.alloc (.cells #[.int .i64 blk, .int .i64 off, .slice a1 n1 c1, .slice ad l.length c] 42)).alloc (.cells #[.int .i64 0, .int .i64 0, .int .u8 1, .int .i64 1, .int .i64 0, .int .i64 0, .int .i64 blk, .int .i64 off, .slice ad l.length c, .slice ad l.length c] 76)) (w.heap.size + 1) (recS blk off l) ⟨ad, c, ad, c⟩ := by
    have h1 := heap_alloc_new (w.alloc (.cells #[.int .i64 blk, .int .i64 off, .slice a1 n1 c1, .slice ad l.length c] 42)) (.cells #[.int .i64 0, .int .i64 0, .int .u8 1, .int .i64 1, .int .i64 0, .int .i64 0, .int .i64 blk, .int .i64 off, .slice ad l.length c, .slice ad l.length c] 76)
    have e1 : (w.alloc (.cells #[.int .i64 blk, .int .i64 off, .slice a1 n1 c1, .slice ad l.length c] 42)).heap.size = w.heap.size + 1 := by simp
    rw [e1] at h1
    exact h1
  have HH := hidI h
  have HT := h.hT
  have HG := hidI hg
  have HB := hidI hb
  have HBN := hidI hbn
  have HBO := hidI hbo
  clear h hg hb hbn hbo
  go_enter Tryz.func30, Tryz.ntmps30
  go_wp2_with fail
  generalize ((w.alloc (.cells #[.int .i64 blk, .int .i64 off, .slice a1 n1 c1, .slice ad l.length c] 42)).alloc (.cells #[.int .i64 0, .int .i64 0, .int .u8 1, .int .i64 1, .int .i64 0, .int .i64 0, .int .i64 blk, .int .i64 off, .slice ad l.length c, .slice ad l.length c] 76)) = w1 at f1 rb ⊢
  obtain ⟨Z, HZ⟩ : ∃ Z, Hid (w.heap.size + 1 = Z) := ⟨_, rfl⟩
  rw [HZ.out] at rb ⊢
  obtain ⟨Z0, HZ0⟩ : ∃ Z0, Hid (w.heap.size = Z0) := ⟨_, rfl⟩
  rw [HZ0.out]
  have g1 : w1.cell? ⟨rg, 1, none⟩ = some (.pointer (some ⟨y.p, 0, none⟩)) := (HG.out.kept f1 (by simp)).c1
  have H1 := hidI (HH.out.kept f1 (by simp))
  have B1 := hidI (HB.out.kept f1 (by simp))
  have RB1 := hidI rb
  have x0 : w1.cell? ⟨Z, 0, none⟩ = some (.int .i64 0) := rb.c0
  have x1 : w1.cell? ⟨Z, 1, none⟩ = some (.int .i64 0) := rb.c1
  have x2 : w1.cell? ⟨Z, 2, none⟩ = some (.int .u8 1) := rb.c2
  have x3 : w1.cell? ⟨Z, 3, none⟩ = some (.int .i64 1) := rb.c3
  have x4 : w1.cell? ⟨Z, 4, none⟩ = some (.int .i64 0) := rb.c4
  have x5 : w1.cell? ⟨Z, 5, none⟩ = some (.int .i64 0) := rb.c5
  have x6 : w1.cell? ⟨Z, 6, none⟩ = some (.int .i64 blk) := rb.c6
  have x7 : w1.cell? ⟨Z, 7, none⟩ = some (.int .i64 off) := rb.c7
  have x8 : w1.cell? ⟨Z, 8, none⟩ = some (.slice ad l.length c) := rb.c8
  have x9 : w1.cell? ⟨Z, 9, none⟩ = some (.slice ad l.length c) := rb.c9
  clear rb
  have hsp : ∀ wx, Fr [] w1 wx → SpotsAt wx (recS blk off l) ⟨ad, c, ad, c⟩ := fun wx fx => ⟨B1.out.kept fx (by simp), B1.out.kept fx (by simp), HBN.out, HBN.out⟩
  have HSP := hidI hsp
  clear hsp
  cases hfit : fitsB blk off l.length with
  | true =>
    have hr : rightB { recS blk off l with lsn := (y.E : Int) + 1, turn := (y.T : Int) } = true := by rw [recS_right blk off l (by omega) HT hT0]; exact hfit
    have hbb := body_bounds hr
    have hel := encL_length { recS blk off l with lsn := (y.E : Int) + 1, turn := (y.T : Int) }
    obtain ⟨N, HN⟩ : ∃ N, Hid ((encL { recS blk off l with lsn := (y.E : Int) + 1, turn := (y.T : Int) }).length = N) := ⟨_, rfl⟩
    have hN : 35 ≤ N ∧ N ≤ 1067 := by rw [← HN.out, hel]; omega
    clear hbb hel
    by_cases hroom : (N : Int) ≤ 408 * (y.count - 1) - ((y.E : Int) - (y.A : Int))
    · go_region_law ((go_simp; go_at_call 25; refine (lo_append (H1.out.kept (Fr.refl [] w1).drew (by simp)) (recS blk off l) ⟨ad, c, ad, c⟩ (HSP.out _ (Fr.refl [] w1).drew) hr HN.out hroom (by omega)).mono ?_; rintro e w3 ⟨rfl, y', L3, A3, O3, f3⟩))
      all_goals
        have LS : LStep w w3 y y' := (LStep.quiet HH.out (f1.trans (Fr.refl [] w1).drew)).trans ⟨L3, f3, O3⟩
        have GR : Grew y y' := ⟨A3.d, A3.bs, A3.bo, A3.nb, A3.p, A3.first, A3.count, A3.T, by rw [A3.E]; omega, by rw [A3.E]; omega, Nat.le_of_eq A3.P.symm, by rw [A3.S, A3.O]; exact Outside.refl _ _ _ _⟩
        have hEE := hidI A3.E
        clear L3 A3 O3 f3
        go_wp2_with fail
        go_ret
        exact ⟨y.E + 1, by go_num, y', LS, GR, by rw [hEE.out]; omega, fun _ => by omega⟩
    · have hno : 408 * (y.count - 1) - ((y.E : Int) - (y.A : Int)) < ((encL { recS blk off l with lsn := (y.E : Int) + 1, turn := (y.T : Int) }).length : Int) := by rw [HN.out]; omega
      go_cut [6, 7] from 8 (fun s6 s7 wx => s6 = .int .i64 0 ∧ s7 = .int .i64 5 ∧ Fr [] w1 wx)
      case first =>
        go_region_law ((go_simp; go_at_call 25; refine (lo_append_no (H1.out.kept (Fr.refl [] w1).drew (by simp)) (recS blk off l) ⟨ad, c, ad, c⟩ (HSP.out _ (Fr.refl [] w1).drew) (by show l.length ≤ 1000000; omega) 5 (Or.inr ⟨hr, hno, rfl⟩)).mono ?_; rintro e w3 ⟨rfl, f3⟩))
        all_goals
          go_wp2_with fail
          go_meet
          exact ⟨rfl, rfl, (Fr.refl [] w1).drew.trans f3⟩
      case rest =>
        obtain ⟨rfl, rfl, f13⟩ := hcut
        have H3 := hidI (H1.out.kept f13 (by simp))
        have k1 : wc.cell? ⟨rg, 1, none⟩ = some (.pointer (some ⟨y.p, 0, none⟩)) := (HG.out.kept (f1.trans f13) (by simp)).c1
        go_wp2_with fail
        have H3d := hidI (H3.out.kept (Fr.refl [] wc).drew (by simp))
        go_cut [47] from 29 (fun s47 wx => s47 = .bool false ∧ ∃ y5, Hid (LStep w1 wx y y5 ∧ Grew y y5 ∧ y5.E = y.E ∧ y5.A = y.E))
        case first =>
          obtain ⟨W0, HW0⟩ : ∃ W0, Hid (W0 = wc) := ⟨_, rfl⟩
          have gg : Fr [] W0 wc.drew := (by rw [HW0.out]; exact (Fr.refl _ _).drew)
          have SK : Hid (∀ w', Fr [] W0 w' → w'.cell? ⟨rg, 1, none⟩ = some (.pointer (some ⟨y.p, 0, none⟩))) := hidI (fun w' f => (HG.out.kept (f1.trans (f13.trans (by rw [HW0.out] at f; exact f))) (by simp)).c1)
          have k0 := SK.out _ gg
          go_region_held3 (fun w' => w'.cell? ⟨rg, 1, none⟩ = some (.pointer (some ⟨y.p, 0, none⟩))) (first | exact SK.out _ gg | exact k4 | exact k5)
            ((first
              | (go_at_call 26; refine (lo_force H3d.out).mono ?_; rintro e w4 ⟨rfl, y4, L4, F4, P4, O4, f4⟩; have LS4 : LStep w1 w4 y y4 := (LStep.quiet H1.out (f13.trans (Fr.refl [] wc).drew)).trans ⟨L4, f4.mono (fun k _ hk => by simp only [Lo.own, List.mem_append]; exact Or.inl hk), O4⟩; have k4 : w4.cell? ⟨rg, 1, none⟩ = some (.pointer (some ⟨y.p, 0, none⟩)) := ((HG.out.kept f1 (by simp)).kept LS4.fr (HG.out.own HH.out)).c1; have L4' := hidI L4; have F4' := hidI F4; have P4' := hidI P4; have LS4' := hidI LS4; have hp4 := hidI F4.p; clear L4 F4 P4 LS4)
              | (go_at_call 35; have E4 := lo_end L4'.out; rw [hp4.out] at E4; refine E4.mono ?_; clear E4; rintro e wz ⟨rfl, hz⟩; rw [hz]; clear hz)
              | (go_at_call 67; have E4 := lo_trim L4'.out L4'.out.lsl y4.E L4'.out.hAE (Nat.le_refl _) (fun _ _ => Or.inr rfl); rw [hp4.out] at E4; refine E4.mono ?_; clear E4; rintro e w5 ⟨rfl, y5, i5, L5, T5, _, _, _, O5, f5⟩; have k5 : w5.cell? ⟨rg, 1, none⟩ = some (.pointer (some ⟨y.p, 0, none⟩)) := ((HG.out.kept f1 (by simp)).kept (LS4'.out.trans ⟨L5, f5.mono (fun k _ hk => by simp only [Lo.own, List.mem_append]; left; simp at hk; simp [hk, hp4.out]), O5⟩).fr (HG.out.own HH.out)).c1)))
          all_goals
            go_wp2_with fail
            go_meet
            refine ⟨rfl, y5, hidI ⟨LS4'.out.trans ⟨L5, f5.mono (fun k _ hk => by simp only [Lo.own, List.mem_append]; left; simp at hk; simp [hk, hp4.out]), O5⟩, ?_, ?_, ?_⟩⟩
            · have F := F4'.out
              exact ⟨T5.d.trans F.d, T5.bs.trans F.bs, T5.bo.trans F.bo, T5.nb.trans F.nb, T5.p.trans F.p, T5.first.trans F.first, T5.count.trans F.count, T5.T.trans F.T, by rw [T5.E, F.E]; exact Nat.le_refl _, by rw [T5.E, F.E]; omega, by rw [T5.P]; exact F.P, by rw [T5.S, T5.O]; exact F.out⟩
            · rw [T5.E, F4'.out.E]
            · rw [T5.A, F4'.out.E]
        case rest =>
          obtain ⟨rfl, y5, HC5⟩ := hcut
          obtain ⟨LS5, G5, e5, a5⟩ := HC5.out
          have hp5 := hidI G5.p
          have hZ : Z ∉ y.own := fun e => by
            have := (HH.out.types Z e).1
            have := HZ.out
            omega
          have R5 := RB1.out.kept LS5.fr hZ
          have B5 := hidI (B1.out.kept LS5.fr (fun b o e => HBO.out b o e))
          have k5 : wc.cell? ⟨rg, 1, none⟩ = some (.pointer (some ⟨y.p, 0, none⟩)) := ((HG.out.kept f1 (by simp)).kept LS5.fr (HG.out.own HH.out)).c1
          have x0 : wc.cell? ⟨Z, 0, none⟩ = some (.int .i64 0) := R5.c0
          have x1 : wc.cell? ⟨Z, 1, none⟩ = some (.int .i64 0) := R5.c1
          have x2 : wc.cell? ⟨Z, 2, none⟩ = some (.int .u8 1) := R5.c2
          have x3 : wc.cell? ⟨Z, 3, none⟩ = some (.int .i64 1) := R5.c3
          have x4 : wc.cell? ⟨Z, 4, none⟩ = some (.int .i64 0) := R5.c4
          have x5 : wc.cell? ⟨Z, 5, none⟩ = some (.int .i64 0) := R5.c5
          have x6 : wc.cell? ⟨Z, 6, none⟩ = some (.int .i64 blk) := R5.c6
          have x7 : wc.cell? ⟨Z, 7, none⟩ = some (.int .i64 off) := R5.c7
          have x8 : wc.cell? ⟨Z, 8, none⟩ = some (.slice ad l.length c) := R5.c8
          have x9 : wc.cell? ⟨Z, 9, none⟩ = some (.slice ad l.length c) := R5.c9
          have HL5 := hidI LS5
          have HG5 := hidI G5
          have HAP : Hid (Calls Tryz.prog 25 #[.pointer (some ⟨y.p, 0, none⟩), .agg (recV (recS blk off l) ⟨ad, c, ad, c⟩)] wc.drew fun e w' => e = .returned (.tuple #[.int .i64 ((y.E : Int) + 1), .int .i64 0]) ∧ ∃ y', LoAt w' y' ∧ Appd y5 y' N ∧ (∀ k ∈ y'.own, k ∈ y5.own ∨ wc.drew.heap.size ≤ k) ∧ Fr y5.own wc.drew w') := by
            have h1 := lo_append (LS5.at'.kept (Fr.refl [] wc).drew (by simp)) (recS blk off l) ⟨ad, c, ad, c⟩ ⟨B5.out.kept (Fr.refl [] wc).drew (by simp), B5.out.kept (Fr.refl [] wc).drew (by simp), HBN.out, HBN.out⟩ (by rw [e5, G5.T]; exact hr) (N := N) (by rw [e5, G5.T]; exact HN.out) (by rw [G5.count, e5, a5, hc12]; omega) (by rw [e5]; omega)
            rw [G5.p, e5] at h1
            exact hidI h1
          have HE5 := hidI e5
          clear R5 LS5 G5 e5 a5 HC5
          go_wp2_with fail
          go_region_law ((go_simp; go_at_call 25; refine HAP.out.mono ?_; rintro e w6 ⟨rfl, y6, L6, A6, O6, f6⟩))
          all_goals
            have LS : LStep w w6 y y6 := (LStep.quiet HH.out f1).trans (HL5.out.trans ((LStep.quiet HL5.out.at' (Fr.refl [] wc).drew).trans ⟨L6, f6, O6⟩))
            have GR : Grew y y6 := by
              have G := HG5.out
              exact ⟨A6.d.trans G.d, A6.bs.trans G.bs, A6.bo.trans G.bo, A6.nb.trans G.nb, A6.p.trans G.p, A6.first.trans G.first, A6.count.trans G.count, A6.T.trans G.T, by rw [A6.E, HE5.out]; omega, by rw [A6.E, HE5.out]; omega, by rw [A6.P]; exact G.P, by rw [A6.S, A6.O]; exact G.out⟩
            have hEE := hidI A6.E
            clear L6 A6 O6 f6
            go_wp2_with fail
            go_ret
            exact ⟨y.E + 1, by go_num, y6, LS, GR, by rw [hEE.out, HE5.out]; omega, fun _ => by omega⟩
  | false =>
    have hr : rightB { recS blk off l with lsn := (y.E : Int) + 1, turn := (y.T : Int) } = false := by rw [recS_right blk off l (by omega) HT hT0]; exact hfit
    go_cut [6, 7] from 8 (fun s6 s7 wx => s6 = .int .i64 0 ∧ s7 = .int .i64 4 ∧ Fr [] w1 wx)
    case first =>
      go_region_law ((go_simp; go_at_call 25; refine (lo_append_no (H1.out.kept (Fr.refl [] w1).drew (by simp)) (recS blk off l) ⟨ad, c, ad, c⟩ (HSP.out _ (Fr.refl [] w1).drew) (by show l.length ≤ 1000000; omega) 4 (Or.inl ⟨hr, rfl⟩)).mono ?_; rintro e w3 ⟨rfl, f3⟩))
      all_goals
        go_wp2_with fail
        go_meet
        exact ⟨rfl, rfl, (Fr.refl [] w1).drew.trans f3⟩
    case rest =>
      obtain ⟨rfl, rfl, f13⟩ := hcut
      have H3 := hidI (H1.out.kept f13 (by simp))
      have k1 : wc.cell? ⟨rg, 1, none⟩ = some (.pointer (some ⟨y.p, 0, none⟩)) := (HG.out.kept (f1.trans f13) (by simp)).c1
      have hrc : rightB { recC with lsn := (y.E : Int) + 1, turn := (y.T : Int) } = true := recC_right (by omega) HT hT0
      have hel := encL_length { recC with lsn := (y.E : Int) + 1, turn := (y.T : Int) }
      have hbl := bodyL_length { recC with lsn := (y.E : Int) + 1, turn := (y.T : Int) }
      have hNN : (encL { recC with lsn := (y.E : Int) + 1, turn := (y.T : Int) }).length = 35 := by rw [hel, hbl]; rfl
      have hspc : SpotsAt wc recC ⟨none, 0, none, 0⟩ := ⟨fun j v hv => by simp [recC, arr] at hv, fun j v hv => by simp [recC, arr] at hv, fun _ => ⟨rfl, rfl⟩, fun _ => ⟨rfl, rfl⟩⟩
      have HNN := hidI hNN
      clear hel hbl hNN
      by_cases hroom : (35 : Int) ≤ 408 * (y.count - 1) - ((y.E : Int) - (y.A : Int))
      · go_wp2_with fail
        refine (lo_append H3.out recC ⟨none, 0, none, 0⟩ hspc hrc HNN.out hroom (by omega)).mono ?_
        rintro e w6 ⟨rfl, y6, L6, A6, O6, f6⟩
        have LS : LStep w w6 y y6 := (LStep.quiet HH.out (f1.trans f13)).trans ⟨L6, f6, O6⟩
        have GR : Grew y y6 := ⟨A6.d, A6.bs, A6.bo, A6.nb, A6.p, A6.first, A6.count, A6.T, by rw [A6.E]; omega, by rw [A6.E]; omega, Nat.le_of_eq A6.P.symm, by rw [A6.S, A6.O]; exact Outside.refl _ _ _ _⟩
        have hEE := hidI A6.E
        clear L6 A6 O6 f6
        go_wp2_with fail
        go_ret
        exact ⟨y.E + 1, by go_num, y6, LS, GR, by rw [hEE.out]; omega, fun _ => by omega⟩
      · go_wp2_with fail
        refine (lo_append_no H3.out recC ⟨none, 0, none, 0⟩ hspc (by show (0 : Nat) ≤ 1000000; omega) 5 (Or.inr ⟨hrc, by rw [HNN.out]; omega, rfl⟩)).mono ?_
        rintro e w6 ⟨rfl, f6⟩
        have LS : LStep w w6 y y := LStep.quiet HH.out ((f1.trans f13).trans f6)
        clear f6
        go_wp2_with fail
        go_ret
        exact ⟨0, by go_num, y, LS, ⟨rfl, rfl, rfl, rfl, rfl, rfl, rfl, rfl, Nat.le_refl _, by omega, Nat.le_refl _, Outside.refl _ _ _ _⟩, by omega, fun h => by rw [hfit] at h; cases h⟩
end Go.Proofs.YtplboeplknggbaaGreat

namespace Go.Proofs.YtplboeplknggbaaGreat
open Go.RowKit Go.Maps

/-- A log that was opened on a device without anything. -/
def lo0 (d bs bo : Nat) (nb : Int) (p : Nat) (count : Int) : Lo := ⟨d, bs, bo, nb, Dv.Tab.none, Dv.Tab.none, p, 0, count, 1, 0, 0, 0, 0, 0, 0, none, 0, 0, none, [], []⟩
theorem lo0_at {w : World} {d bs bo : Nat} {nb : Int} (hd : Dv.Dev w d bs bo nb 0 false Dv.Tab.none Dv.Tab.none) {p : Nat} {count : Int} (hc : 4 ≤ count) (hn : count ≤ nb) (hb : LBox w p ⟨.pointer (some ⟨d, 0, none⟩), 0, count, 1, 1, 1, 1, .slice none 0 0, 1, .slice none 0 0⟩) : LoAt w (lo0 d bs bo nb p count) :=
  { dev := hd, box := hb, bsA := BsAt.nil w, lsA := LsAt.nil w, lbl := rfl, hn := rfl, hFP := Nat.le_refl _, hPE := Nat.le_refl _, hFA := Nat.le_refl _, hAE := Nat.le_refl _, hE := by show (0 : Nat) ≤ 400000; omega, h2 := Nat.le_refl _, hT := by show (1 : Nat) < 2147483648; omega, f0 := Int.le_refl _, f1 := by show (0 : Int) + count ≤ nb; omega, c0 := hc }
theorem st_none (k : Int) : stampP ((Dv.latest Dv.Tab.none Dv.Tab.none k).take 64) ≠ 1 := by
  have h : Dv.latest Dv.Tab.none Dv.Tab.none k = Dv.zeros := rfl
  rw [h]
  have h2 : stampP (Dv.zeros.take 64) = 0 := by kernel_rfl
  rw [h2]
  omega
def po0 (d bs bo : Nat) (nb : Int) (p pp rp mp start pages most : Nat) (count : Int) : Po := ⟨lo0 d bs bo nb p count, pp, rp, mp, start, pages, most, none, 0, 0, []⟩
/-- A rig in memory, and its pool. -/
structure RigAt (w : World) (rg : Nat) (x : Po) : Prop where
  box : Rig w rg x.y.d x.y.p (.pointer (some ⟨x.pp, 0, none⟩))
  po : PoAt w x
  ne : rg ∉ x.pp :: x.own
theorem RigAt.kept {w w' : World} {rg : Nat} {x : Po} {L : List Nat} (h : RigAt w rg x) (f : Fr L w w') (h0 : rg ∉ L) (hL : ∀ k ∈ x.pp :: x.own, k ∉ L) : RigAt w' rg x := ⟨h.box.kept f h0, h.po.kept f hL, h.ne⟩
set_option maxHeartbeats 1000000 in
set_option maxRecDepth 100000 in
theorem begin_ok (w : World) (pages most : Nat) (h1 : 1 ≤ pages) (h2 : pages ≤ 1000) (h3 : 8 ≤ most) (h4 : most ≤ 1024) :
    Calls Tryz.prog 8 #[.int .i64 (pages : Int), .int .i64 (most : Int)] w fun e w' => ∃ rg d bs bo p pp rp mp, e = .returned (.pointer (some ⟨rg, 0, none⟩)) ∧ RigAt w' rg (po0 d bs bo (12 + (pages : Int)) p pp rp mp 12 pages most 12) ∧ (∀ k ∈ rg :: pp :: (po0 d bs bo (12 + (pages : Int)) p pp rp mp 12 pages most 12).own, w.heap.size ≤ k) ∧ Fr [] w w' := by
  have q1 : IntKind.i64.wrap (12 + (pages : Int)) = 12 + (pages : Int) := wrapI _ (by omega) (by omega)
  go_enter Tryz.func8, Tryz.ntmps8
  go_wp2_with fail
  refine (Dv.new_dev (12 + (pages : Int)) w (by omega) (by omega)).mono ?_
  rintro e w1 ⟨rfl, D1, f1⟩
  have f1' : Fr [] w w1 := fr_dv f1
  obtain ⟨d, hd⟩ : ∃ d, d = w.heap.size + 2 := ⟨_, rfl⟩
  obtain ⟨bo, hbo⟩ : ∃ bo, bo = w.heap.size + 1 := ⟨_, rfl⟩
  rw [← hd, ← hbo] at D1
  rw [← hd]
  have HD := hidI hd
  have HBO := hidI hbo
  have D1' := hidI D1
  clear hd hbo D1 f1
  go_wp2_with fail
  refine (open_zero w1 d w.heap.size bo (12 + (pages : Int)) 0 Dv.Tab.none Dv.Tab.none D1'.out 0 12 1 (by omega) (by omega) (by omega) (by omega) (by omega) (st_none 0)).mono ?_
  rintro e w2 ⟨p, rfl, L2, hp2, f2⟩
  have A2 := hidI (lo0_at (dev_kept D1'.out f2 (by simp) (by simp) (by simp)) (by omega) (by omega) L2)
  go_wp2_with fail
  refine (new_ok A2.out 12 pages most h1 (by show (12 : Int) + (pages : Int) ≤ 12 + (pages : Int); omega) h3 h4 (by right; show (0 : Int) + 12 ≤ 12; omega)).mono ?_
  rintro e w3 ⟨pp, rp, mp, rfl, P3, hpp, hrp, hmp, f3⟩
  have hsz := f1'.size
  have hsz2 := f2.size
  have P3' := hidI P3
  have f4 : Fr [] w3 (w3.alloc (.cells #[.pointer (some ⟨d, 0, none⟩), .pointer (some ⟨p, 0, none⟩), .pointer (some ⟨pp, 0, none⟩)] 28)) := (Fr.refl [] w3).alloc _
  have b4 := heap_alloc_new w3 (.cells #[.pointer (some ⟨d, 0, none⟩), .pointer (some ⟨p, 0, none⟩), .pointer (some ⟨pp, 0, none⟩)] 28)
  clear P3 L2
  go_wp2_with fail
  go_ret
  refine ⟨w3.heap.size, d, w.heap.size, bo, p, pp, rp, mp, rfl, ⟨b4, P3'.out.kept f4 (by simp), fun e => ?_⟩, ?_, ((f1'.trans f2).trans f3).trans f4⟩
  · have := P3'.out.lt _ e
    omega
  · have e1 := HD.out
    have e2 := HBO.out
    have e3 := f3.size
    intro k hk
    simp [Po.own, po0, ownR, lo0, Lo.own, Value.ownBlock] at hk
    omega
end Go.Proofs.YtplboeplknggbaaGreat

namespace Go.Proofs.YtplboeplknggbaaGreat
open Go.RowKit Go.Maps

/-- A page is what its frame has, or, if it is in none, what the device has. -/
def Val (x : Po) (q : Nat) (l : List UInt8) : Prop := (∃ f ∈ x.fs, f.pg = q ∧ f.l = l) ∨ (q ∉ (ids x.fs).map (·.1) ∧ pgD x.start x.y q = l)
theorem mem_ids {fs : List Fm} {f : Fm} (h : f ∈ fs) : f.pg ∈ (ids fs).map (·.1) := List.mem_map.2 ⟨(f.pg, f.b), List.mem_map.2 ⟨f, h, rfl⟩, rfl⟩
theorem ids_mem {fs : List Fm} {q : Nat} (h : q ∈ (ids fs).map (·.1)) : ∃ f ∈ fs, f.pg = q := by
  obtain ⟨j, f, hj, hq⟩ := pg_in h
  exact ⟨f, List.mem_of_getElem? hj, hq⟩
theorem ids_pg (fs : List Fm) : (ids fs).map (·.1) = fs.map (·.pg) := by
  unfold ids
  rw [List.map_map]
  rfl
theorem pg_uniq {fs : List Fm} (hn : ((ids fs).map (·.1)).Nodup) {i j : Nat} {f g : Fm} (hi : fs[i]? = some f) (hj : fs[j]? = some g) (he : f.pg = g.pg) : i = j := by
  rw [ids_pg] at hn
  have h1 : (fs.map (·.pg))[i]? = some f.pg := by rw [List.getElem?_map, hi]; rfl
  have h2 : (fs.map (·.pg))[j]? = some f.pg := by rw [List.getElem?_map, hj, he]; rfl
  obtain ⟨hl1, e1⟩ := List.getElem?_eq_some_iff.1 h1
  obtain ⟨hl2, e2⟩ := List.getElem?_eq_some_iff.1 h2
  have hp := List.pairwise_iff_getElem.1 hn
  rcases Nat.lt_trichotomy i j with h | h | h
  · exact absurd (e1.trans e2.symm) (hp i j hl1 hl2 h)
  · exact h
  · exact absurd (e2.trans e1.symm) (hp j i hl2 hl1 h)
theorem Val.uniq {x : Po} (hn : ((ids x.fs).map (·.1)).Nodup) {q : Nat} {l l' : List UInt8} (h : Val x q l) (h' : Val x q l') : l = l' := by
  rcases h with ⟨f, hf, rfl, rfl⟩ | ⟨hq, rfl⟩ <;> rcases h' with ⟨g, hg, he, rfl⟩ | ⟨hq', rfl⟩
  · obtain ⟨i, hi⟩ := List.mem_iff_getElem?.1 hf
    obtain ⟨j, hj⟩ := List.mem_iff_getElem?.1 hg
    have := pg_uniq hn hi hj he.symm
    subst this
    rw [hi] at hj
    cases hj
    rfl
  · exact absurd (mem_ids hf) hq'
  · exact absurd (he ▸ mem_ids hg) hq
  · rfl
theorem Val.ex (x : Po) (q : Nat) : ∃ l, Val x q l := by
  by_cases h : q ∈ (ids x.fs).map (·.1)
  · obtain ⟨f, hf, hq⟩ := ids_mem h
    exact ⟨_, Or.inl ⟨f, hf, hq, rfl⟩⟩
  · exact ⟨_, Or.inr ⟨h, rfl⟩⟩
theorem Val.len {w : World} {x : Po} (h : PoAt w x) {q : Nat} {l : List UInt8} (hv : Val x q l) : l.length = 512 := by
  rcases hv with ⟨f, hf, _, rfl⟩ | ⟨_, rfl⟩
  · exact (h.rn.frames f hf).len
  · exact latest_len h.lo.dev _
/-- All pages of one pool are as those of another one. -/
def Alike (x x' : Po) : Prop := x'.start = x.start ∧ x'.pages = x.pages ∧ x'.most = x.most ∧ x'.pp = x.pp ∧ x'.mp = x.mp ∧ x'.rp = x.rp ∧ ∀ q, q < x.pages → ∀ l, Val x q l → Val x' q l
theorem Alike.refl (x : Po) : Alike x x := ⟨rfl, rfl, rfl, rfl, rfl, rfl, fun _ _ _ h => h⟩
theorem Alike.trans {x y z : Po} (h : Alike x y) (k : Alike y z) : Alike x z := ⟨k.1.trans h.1, k.2.1.trans h.2.1, k.2.2.1.trans h.2.2.1, k.2.2.2.1.trans h.2.2.2.1, k.2.2.2.2.1.trans h.2.2.2.2.1, k.2.2.2.2.2.1.trans h.2.2.2.2.2.1, fun q hq l hl => k.2.2.2.2.2.2 q (by rw [h.2.1]; exact hq) l (h.2.2.2.2.2.2 q hq l hl)⟩
theorem val_set {x : Po} {fs' : List Fm} (hp : fs'.map (·.pg) = x.fs.map (·.pg)) (hl : ∀ (i : Nat) (f : Fm), x.fs[i]? = some f → ∃ g : Fm, fs'[i]? = some g ∧ g.pg = f.pg ∧ g.l = f.l) {q : Nat} {l : List UInt8} (h : Val x q l) : Val { x with fs := fs' } q l := by
  rcases h with ⟨f, hf, rfl, rfl⟩ | ⟨hq, rfl⟩
  · obtain ⟨i, hi⟩ := List.mem_iff_getElem?.1 hf
    obtain ⟨g, hg, h1, h2⟩ := hl i f hi
    exact Or.inl ⟨g, List.mem_of_getElem? hg, h1, h2⟩
  · refine Or.inr ⟨?_, rfl⟩
    show q ∉ (ids fs').map (·.1)
    rw [ids_pg, hp, ← ids_pg]
    exact hq
theorem Fnd.alike {x x' : Po} {page : Nat} {f : Fm} (h : Fnd x x' page f) (hn : ((ids x.fs).map (·.1)).Nodup) : Alike x x' ∧ Val x page f.l ∧ f.pg = page := by
  rcases h with ⟨j, f0, hj, rfl, rfl, rfl⟩ | ⟨hno, hm, hf⟩
  · refine ⟨⟨rfl, rfl, rfl, rfl, rfl, rfl, fun q _ l hl => val_set (fs' := x.fs.set j { f0 with ask := true }) ?_ ?_ hl⟩, Or.inl ⟨f0, List.mem_of_getElem? hj, rfl, rfl⟩, rfl⟩
    · rw [← ids_pg, ids_set (f' := { f0 with ask := true }) hj rfl rfl, ids_pg]
    · intro i g hi
      by_cases e : i = j
      · subst e
        rw [hj] at hi
        cases hi
        exact ⟨_, List.getElem?_set_self (List.getElem?_eq_some_iff.1 hj).1, rfl, rfl⟩
      · exact ⟨g, by rw [List.getElem?_set_ne (fun h => e h.symm)]; exact hi, rfl, rfl⟩
  · rcases hm with ⟨_, a, c, rfl⟩ | ⟨_, y', k, j, f1, _, _, hf1, _, rfl, hk, hpq, hpf, _⟩
    · refine ⟨⟨rfl, rfl, rfl, rfl, rfl, rfl, fun q _ l hl => ?_⟩, Or.inr ⟨hno, by rw [hf]; rfl⟩, by rw [hf]; rfl⟩
      rcases hl with ⟨g, hg, h1, h2⟩ | ⟨hq, h2⟩
      · exact Or.inl ⟨g, List.mem_append_left _ hg, h1, h2⟩
      · by_cases e : q = page
        · subst e
          exact Or.inl ⟨_, List.mem_append_right _ (List.mem_singleton.2 rfl), rfl, h2⟩
        · refine Or.inr ⟨?_, h2⟩
          show q ∉ (ids (x.fs ++ [newF f.b page (pgD x.start x.y page)])).map (·.1)
          rw [ids_pg, List.map_append, List.mem_append, ← ids_pg]
          rintro (h | h)
          · exact hq h
          · simp [newF] at h
            exact e h
    · refine ⟨⟨rfl, rfl, rfl, rfl, rfl, rfl, fun q hqp l hl => ?_⟩, Or.inr ⟨hno, by rw [hf]; rfl⟩, by rw [hf]; rfl⟩
      have hlt : j < x.fs.length := (List.getElem?_eq_some_iff.1 hf1).1
      have hids : ids (turnS k (x.fs.set j { f1 with fst := 0 }, x.hand)).1 = ids x.fs := (turnS_ids _ _).trans (ids_set (f' := { f1 with fst := 0 }) hf1 rfl rfl)
      have hpgs : (ids (x.swapped y' k j f1 (newF f.b page (pgD x.start x.y page))).fs).map (·.1) = ((ids x.fs).map (·.1)).set j page := by
        show (ids ((turnS k (x.fs.set j { f1 with fst := 0 }, x.hand)).1.set j (newF f.b page (pgD x.start x.y page)))).map (·.1) = _
        rw [ids_pg, List.map_set, ← ids_pg, hids]
        rfl
      have hat : ∀ (i : Nat) (g : Fm), i ≠ j → x.fs[i]? = some g → ∃ g' : Fm, (x.swapped y' k j f1 (newF f.b page (pgD x.start x.y page))).fs[i]? = some g' ∧ g'.pg = g.pg ∧ g'.l = g.l := by
        intro i g hij hg
        have hil : i < (turnS k (x.fs.set j { f1 with fst := 0 }, x.hand)).1.length := by rw [turnS_len, List.length_set]; exact (List.getElem?_eq_some_iff.1 hg).1
        obtain ⟨g', h1, h2⟩ := turnS_at k (x.fs.set j { f1 with fst := 0 }, x.hand) i _ (List.getElem?_eq_getElem hil)
        have h3 : (x.fs.set j { f1 with fst := 0 })[i]? = some g := by rw [List.getElem?_set_ne (fun h => hij h.symm)]; exact hg
        rw [h3] at h1
        cases h1
        refine ⟨(turnS k (x.fs.set j { f1 with fst := 0 }, x.hand)).1[i], ?_, ?_⟩
        · show ((turnS k (x.fs.set j { f1 with fst := 0 }, x.hand)).1.set j _)[i]? = _
          rw [List.getElem?_set_ne (fun h => hij h.symm)]
          exact List.getElem?_eq_getElem hil
        · rcases h2 with h2 | h2 <;> rw [h2] <;> exact ⟨rfl, rfl⟩
      have hnj : (x.swapped y' k j f1 (newF f.b page (pgD x.start x.y page))).fs[j]? = some (newF f.b page (pgD x.start x.y page)) := by
        show ((turnS k (x.fs.set j { f1 with fst := 0 }, x.hand)).1.set j _)[j]? = _
        rw [List.getElem?_set_self]
        rw [turnS_len, List.length_set]
        exact hlt
      rcases hl with ⟨g, hg, h1, h2⟩ | ⟨hq, h2⟩
      · obtain ⟨i, hi⟩ := List.mem_iff_getElem?.1 hg
        by_cases e : i = j
        · subst e
          rw [hf1] at hi
          cases hi
          refine Or.inr ⟨?_, ?_⟩
          · rw [hpgs]
            intro hc
            have hmem := List.mem_iff_getElem?.1 hc
            obtain ⟨i', hi'⟩ := hmem
            by_cases e' : i' = i
            · subst e'
              rw [List.getElem?_set_self (by rw [ids_pg, List.length_map]; exact hlt)] at hi'
              cases hi'
              exact hno (h1 ▸ mem_ids hg)
            · rw [List.getElem?_set_ne (fun h => e' h.symm), ids_pg, List.getElem?_map] at hi'
              cases hg' : x.fs[i']? with
              | none => rw [hg'] at hi'; cases hi'
              | some g' =>
                rw [hg'] at hi'
                have : g'.pg = q := by simpa using hi'
                exact e' (pg_uniq hn hg' hf1 (this.trans h1.symm))
          · show pgD x.start y' q = l
            rw [← h1, hpf, h2]
        · obtain ⟨g', hg', h3, h4⟩ := hat i g e hi
          exact Or.inl ⟨g', List.mem_of_getElem? hg', h3.trans h1, h4.trans h2⟩
      · by_cases e : q = page
        · subst e
          exact Or.inl ⟨_, List.mem_of_getElem? hnj, rfl, h2⟩
        · refine Or.inr ⟨?_, ?_⟩
          · rw [hpgs]
            intro hc
            rcases List.mem_or_eq_of_mem_set hc with h | h
            · exact hq h
            · exact e h
          · show pgD x.start y' q = l
            rw [hpq q hqp (fun h => hq (h ▸ mem_ids (List.mem_of_getElem? hf1))), h2]
/-- How many frames there are. -/
theorem Fnd.length {x x' : Po} {page : Nat} {f : Fm} (h : Fnd x x' page f) : (x'.fs.length = x.fs.length ∧ (page ∈ (ids x.fs).map (·.1) ∨ x.fs.length = x.most)) ∨ (x.fs.length < x.most ∧ x'.fs.length = x.fs.length + 1 ∧ page ∉ (ids x.fs).map (·.1)) := by
  rcases h with ⟨j, f0, hj, rfl, rfl, rfl⟩ | ⟨hno, hm, hf⟩
  · exact Or.inl ⟨List.length_set, Or.inl (mem_ids (List.mem_of_getElem? hj))⟩
  · rcases hm with ⟨h1, a, c, rfl⟩ | ⟨h1, y', k, j, f1, _, _, hf1, _, rfl, hk, hpq, hpf, _⟩
    · exact Or.inr ⟨h1, by show (x.fs ++ [_]).length = _; rw [List.length_append]; rfl, hno⟩
    · refine Or.inl ⟨?_, Or.inr h1⟩
      show ((turnS k (x.fs.set j { f1 with fst := 0 }, x.hand)).1.set j _).length = _
      rw [List.length_set, turnS_len, List.length_set]
theorem Fnd.kin {x x' : Po} {page : Nat} {f : Fm} (h : Fnd x x' page f) : Kin x.y x'.y := by
  rcases h with ⟨j, f0, hj, rfl, rfl, rfl⟩ | ⟨hno, hm, hf⟩
  · exact Kin.refl _
  · rcases hm with ⟨h1, a, c, rfl⟩ | ⟨h1, y', k, j, f1, _, _, hf1, _, rfl, hk, hpq, hpf, _⟩
    · exact Kin.refl _
    · exact hk
end Go.Proofs.YtplboeplknggbaaGreat

namespace Go.Proofs.YtplboeplknggbaaGreat
open Go.RowKit Go.Maps

def cmpP (a b : Nat) : Int := if a < b then -1 else if b < a then 1 else 0
set_option maxHeartbeats 400000 in
theorem nanI_any (w : World) (x : Int) : Calls Tryz.prog 118 #[.int .i64 x] w fun e w' => e = .returned (.bool false) ∧ w' = w := by
  have h : (x != x) = false := by simp
  go_enter Tryz.func118, Tryz.ntmps118
  go_wp2
  go_ret
  exact ⟨rfl, rfl⟩
set_option maxHeartbeats 400000 in
theorem compare_any (w : World) (a b : Nat) : Calls Tryz.prog 77 #[.int .i64 (a : Int), .int .i64 (b : Int)] w fun e w' => e = .returned (.int .i64 (cmpP a b)) ∧ w' = w := by
  unfold cmpP
  by_cases h1 : a < b
  · have q1 : (a : Int) < (b : Int) := by omega
    rw [if_pos h1]
    go_enter Tryz.func77, Tryz.ntmps77
    go_wp2_with (go_at_call 118; refine (nanI_any _ _).mono ?_; rintro e wz ⟨rfl, hz⟩; rw [hz]; clear hz)
    go_ret
    exact ⟨rfl, rfl⟩
  · have q1 : ¬ (a : Int) < (b : Int) := by omega
    rw [if_neg h1]
    by_cases h2 : b < a
    · have q2 : (b : Int) < (a : Int) := by omega
      rw [if_pos h2]
      go_enter Tryz.func77, Tryz.ntmps77
      go_wp2_with (go_at_call 118; refine (nanI_any _ _).mono ?_; rintro e wz ⟨rfl, hz⟩; rw [hz]; clear hz)
      go_ret
      exact ⟨rfl, rfl⟩
    · have q2 : ¬ (b : Int) < (a : Int) := by omega
      rw [if_neg h2]
      go_enter Tryz.func77, Tryz.ntmps77
      go_wp2_with (go_at_call 118; refine (nanI_any _ _).mono ?_; rintro e wz ⟨rfl, hz⟩; rw [hz]; clear hz)
      go_ret
      exact ⟨rfl, rfl⟩
set_option maxHeartbeats 1000000 in
theorem rising1_any {w : World} {f g : Fm} (hf : FAt w f) (hg : FAt w g) : Calls Tryz.prog 76 #[.pointer (some ⟨f.b, 0, none⟩), .pointer (some ⟨g.b, 0, none⟩)] w fun e w' => e = .returned (.int .i64 (cmpP f.pg g.pg)) ∧ ∃ q, w' = w.drewN q := by
  have c0 := hf.c0
  have d0 := hg.c0
  clear hf hg
  go_enter Tryz.func76, Tryz.ntmps76
  go_wp2_with fail
  go_quiet ((go_at_call 77; exact Calls.quiet_of_same (compare_any _ _ _)))
  go_wp2
  go_ret
  exact ⟨rfl, _, rfl⟩
end Go.Proofs.YtplboeplknggbaaGreat

