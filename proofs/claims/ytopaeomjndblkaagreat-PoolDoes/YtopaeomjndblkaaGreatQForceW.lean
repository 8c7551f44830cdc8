/-
  A log made safe, wherever it stands: what lies outside its area stays as it is.
-/
import Derived.Test.YtopaeomjndblkaaGreatQForce
import Derived.Test.YtopaeomjndblkaaGreatQLaidW
namespace Go.Proofs.YtopaeomjndblkaaGreat
open Go.RowKit Go.Maps

/-- A row behind a call: where it lay, or in new memory. -/
def Newer (w : World) (v v' : Value) : Prop := ∀ g ∈ v'.ownBlock.toList, g ∈ v.ownBlock.toList ∨ w.heap.size ≤ g
theorem CopAt.new {w0 w : World} {ad : Option Addr} {l : List UInt8} (h : CopAt w0 w ad l) {n c : Nat} : ∀ g ∈ (Value.ownBlock (.slice ad n c)).toList, w0.heap.size ≤ g := by
  intro g hg
  cases ad with
  | none => simp [Value.ownBlock] at hg
  | some a =>
    obtain ⟨g', rfl, h1, _⟩ := h.at' a rfl
    simp [Value.ownBlock] at hg
    omega
theorem Newer.refl (w : World) (a : Option Addr) (n c n' c' : Nat) : Newer w (.slice a n c) (.slice a n' c') := fun g hg => Or.inl (by cases a <;> exact hg)
set_option maxHeartbeats 1000000 in
set_option maxRecDepth 100000 in
theorem letGo_any (w : World) (p : Nat) (dv : Value) (first count turn : Int) (A P E F M n cb : Nat) (ad : Option Addr) (ls : Value) (lb : List UInt8)
    (hx : LBox w p ⟨dv, first, count, turn, (A : Int) + 1, (P : Int) + 1, (E : Int) + 1, .slice ad n cb, (F : Int) + 1, ls⟩) (hb : BsAt w ad n cb lb) (hl : lb.length = n) (hn : n ≤ 1000000) (hM : M = min A P) (hFM : F ≤ M) (hMn : M - F ≤ n) (hA : A < 4611686018427380000) :
    Calls Tryz.prog 186 #[.pointer (some ⟨p, 0, none⟩)] w fun e w' => e = .returned (.tuple #[]) ∧ ∃ ad' cb', LBox w' p ⟨dv, first, count, turn, (A : Int) + 1, (P : Int) + 1, (E : Int) + 1, .slice ad' (n - (M - F)) cb', (M : Int) + 1, ls⟩ ∧ BsAt w' ad' (n - (M - F)) cb' (lb.drop (M - F)) ∧ Newer w (.slice ad n cb) (.slice ad' (n - (M - F)) cb') ∧ Fr [p] w w' := by
  have c4 : w.cell? ⟨p, 4, none⟩ = some (.int .i64 ((A : Int) + 1)) := hx.c4
  have c5 : w.cell? ⟨p, 5, none⟩ = some (.int .i64 ((P : Int) + 1)) := hx.c5
  have hm2 : (if P < A then (P : Int) + 1 else (A : Int) + 1) = (M : Int) + 1 := by split <;> omega
  have HMM := hidI hM
  have hMA : M ≤ A := by omega
  obtain ⟨k, HK⟩ : ∃ k, Hid (M - F = k) := ⟨_, rfl⟩
  rw [HK.out] at hMn ⊢
  have HX := hidI hx
  have HB := hidI hb
  have HL : Hid (lb.length = n) := hl
  clear hx hb hl hM
  go_enter Tryz.func186, Tryz.ntmps186
  go_wp2_with fail
  go_quiet (fail)
  try simp only [hm2]
  have f := (Fr.refl [] w).drewN nq
  have L1 := HX.out.kept f (by simp)
  have B1 := own0_kept HB.out f (by simp)
  generalize w.drewN nq = w1 at f L1 B1 ⊢
  have c8 : w1.cell? ⟨p, 8, none⟩ = some (.int .i64 ((F : Int) + 1)) := L1.c8
  clear c4 c5 hm2
  by_cases hMF : M = F
  · subst hMF
    clear HMM
    obtain rfl : k = 0 := by have := HK.out; omega
    clear HK
    go_wp2
    refine bodyPost_ret (results_none Tryz.results186 _ _ _) rfl ⟨rfl, ad, cb, ?_⟩
    rw [Nat.sub_zero, List.drop_zero]
    exact ⟨L1, B1, Newer.refl _ _ _ _ _ _, f.mono (fun _ _ h => nomatch h)⟩
  · have q1 : (((M : Int) + 1) == ((F : Int) + 1)) = false := by rw [beq_eq_false_iff_ne]; omega
    have hk0 : 0 < k := by rw [← HK.out]; omega
    have hn0 : 0 < n := by omega
    obtain ⟨g, rfl, by1, hncb⟩ := BsAt.at B1 hn0 HL.out
    have hw : IntKind.i64.wrap ((M : Int) + 1 - ((F : Int) + 1)) = (k : Int) := by rw [← HK.out, show (M : Int) + 1 - ((F : Int) + 1) = ((M - F : Nat) : Int) by omega]; exact wrapI _ (by omega) (by omega)
    obtain ⟨oY, HOY, hdpY⟩ : ∃ oY, Hid (cb = k ∨ oY = k) ∧ (if cb = k then some (⟨g, 0, none⟩ : Addr) else some ⟨g, k, none⟩) = some ⟨g, oY, none⟩ := by
      by_cases e : cb = k
      · exact ⟨0, Or.inl e, by rw [if_pos e]⟩
      · exact ⟨k, Or.inr rfl, by rw [if_neg e]⟩
    have HSB : Hid (∀ w', Fr [] w1 w' → BytesAt w' (some ⟨g, oY, none⟩) (lb.drop k)) := hidI (fun w' ff => by
      rcases HOY.out with e | rfl
      · have h0 : lb.drop k = [] := List.drop_of_length_le (by have := HL.out; omega)
        rw [h0]
        exact BytesAt.nil w' _
      · have := (by1.kept ff (by simp)).sub oY (n - oY)
        rw [Nat.zero_add, List.take_of_length_le (by rw [List.length_drop, HL.out]; exact Nat.le_refl _)] at this
        exact this)
    have HLD : Hid ((lb.drop k).length = n - k) := hidI (by rw [List.length_drop, HL.out])
    have hk1 : (k : Int) ≤ (n : Int) := by omega
    have hk2 : (k : Int) ≤ (cb : Int) := by omega
    have hkz : (0 : Int) ≤ (k : Int) := by omega
    have hkn : k ≤ n := by omega
    have c7 : w1.cell? ⟨p, 7, none⟩ = some (.slice (some ⟨g, 0, none⟩) n cb) := L1.c7
    have LX := hidI L1
    clear L1 B1 by1 hMF HK
    go_wp2_with fail
    go_region_law ((go_simp; go_at_call 228; refine (copied_any _ (some ⟨g, oY, none⟩) (n - k) (cb - k) (lb.drop k) HLD.out (HSB.out _ (Fr.refl [] w1).drew) (by omega)).mono ?_; rintro e w3 ⟨ad', rfl, cp, f3⟩; have d7 : w3.cell? ⟨p, 7, none⟩ = some (.slice (some ⟨g, 0, none⟩) n cb) := (LX.out.kept ((Fr.refl [] w1).drew.trans f3) (by simp)).c7; have z7 := (LX.out.kept ((Fr.refl [] w1).drew.trans f3) (by simp)).fz 7; have d8 : w3.cell? ⟨p, 8, none⟩ = some (.int .i64 ((F : Int) + 1)) := (LX.out.kept ((Fr.refl [] w1).drew.trans f3) (by simp)).c8; have z8 := (LX.out.kept ((Fr.refl [] w1).drew.trans f3) (by simp)).fz 8))
    all_goals
      have g3 : Fr [] w1 w3 := (Fr.refl [] w1).drew.trans f3
      have L3 := hidI (LX.out.kept g3 (by simp))
      have hbs : BsAt w3 ad' (n - k) (n - k) (lb.drop k) := CopAt.bs ⟨cp.nil, cp.at'⟩ HLD.out (by omega)
      have HBS := hidI hbs
      have HNW : Hid (Newer w (.slice (some ⟨g, 0, none⟩) n cb) (.slice ad' (n - k) (n - k))) := hidI (fun g' hg' => Or.inr (by have h1 := CopAt.new cp g' hg'; have h2 := f.size; simp at h1; omega))
      clear cp hbs f3
      go_wp2_with fail
      go_end0
      refine ⟨rfl, ad', n - k, (L3.out.s7 (.slice ad' (n - k) (n - k))).s8 ((M : Int) + 1), ?_, HNW.out, ?_⟩
      · refine own0_kept (L := [p]) HBS.out (((Fr.refl [p] w3).setCell _ _ (by simp)).setCell _ _ (by simp)) ?_
        intro g' hg' cur ty hc
        simp at hg'
        subst hg'
        have hL := L3.out
        unfold LBox at hL
        rw [hL] at hc
        cases hc
        decide
      · exact ((((f.trans g3).mono (M := [p]) (fun _ _ h => nomatch h)).setCell _ _ (by simp)).setCell _ _ (by simp))

theorem dev_types {w : World} {d bs bo : Nat} {n a : Int} {dn : Bool} {S O : Dv.Tab} (h : Dv.Dev w d bs bo n a dn S O) : ∀ g ∈ [d, bo], ∀ cur t, w.heap[g]? = some (.cells cur t) → t ≠ 5 := by
  intro g hg cur t e
  simp at hg
  rcases hg with rfl | rfl
  · rw [h.cells] at e
    cases e
    decide
  · obtain ⟨D, ⟨es, clock, hb, _⟩, _⟩ := h.opn
    rw [hb] at e
    cases e
theorem dev_types3 {w : World} {d bs bo : Nat} {n a : Int} {dn : Bool} {S O : Dv.Tab} (h : Dv.Dev w d bs bo n a dn S O) : ∀ g ∈ [d, bs, bo], ∀ cur t, w.heap[g]? = some (.cells cur t) → t ≠ 5 := by
  intro g hg cur t e
  simp at hg
  rcases hg with rfl | rfl | rfl
  · exact dev_types h _ (by simp) _ _ e
  · obtain ⟨D, ⟨es, clock, hb, _⟩, _⟩ := h.safe
    rw [hb] at e
    cases e
  · exact dev_types h _ (by simp) _ _ e
theorem box_types {w : World} {p : Nat} {x : Lg} (h : LBox w p x) : ∀ g ∈ [p], ∀ cur t, w.heap[g]? = some (.cells cur t) → t ≠ 5 := by
  intro g hg cur t e
  simp at hg
  subst hg
  unfold LBox at h
  rw [h] at e
  cases e
  decide
/-- Outside the log's area nothing has changed. -/
def Outside (first count : Int) (S O S' O' : Dv.Tab) : Prop := ∀ k, (k < first ∨ first + count ≤ k) → Dv.latest S' O' k = Dv.latest S O k
theorem Outside.refl (first count : Int) (S O : Dv.Tab) : Outside first count S O S O := fun _ _ => rfl
theorem Outside.put {first count : Int} {S O S' O' : Dv.Tab} (h : Outside first count S O S' O') (k : Int) (l : List UInt8) (h0 : first ≤ k) (h1 : k < first + count) : Outside first count S O S' (Dv.Tab.put O' k l) := by
  intro j hj
  rw [← h j hj]
  unfold Dv.latest Dv.Tab.put
  rw [if_neg (by omega)]
theorem Outside.sync {first count : Int} {S O S' O' : Dv.Tab} (h : Outside first count S O S' O') : Outside first count S O (Dv.over S' O') Dv.Tab.none := by
  intro j hj
  rw [← h j hj]
  unfold Dv.latest Dv.over Dv.Tab.none Dv.Tab.get
  cases e : O' j <;> simp [e]

set_option maxHeartbeats 2000000 in
set_option maxRecDepth 100000 in
theorem force_weak (w : World) (p d bs bo : Nat) (nb : Int) (S O : Dv.Tab) (hdv : Dv.Dev w d bs bo nb 0 false S O) (first count : Int) (T A P E F n cb : Nat) (ad : Option Addr) (ls : Value) (lb : List UInt8)
    (hx : LBox w p ⟨.pointer (some ⟨d, 0, none⟩), first, count, (T : Int), (A : Int) + 1, (P : Int) + 1, (E : Int) + 1, .slice ad n cb, (F : Int) + 1, ls⟩) (hb : BsAt w ad n cb lb) (hl : lb.length = n) (hn : F + n = E) (hn1 : n ≤ 1000000) (hFP : F ≤ P) (hPE : P ≤ E) (hFA : F ≤ A) (hAE : A ≤ E) (hE : E < 4611686018427370000) (hT : T < 2147483648)
    (f0 : 0 ≤ first) (f1 : first + count ≤ nb) (c0 : 4 ≤ count) (hp1 : p ≠ d) (hp2 : p ≠ bs) (hp3 : p ≠ bo) :
    Calls Tryz.prog 84 #[.pointer (some ⟨p, 0, none⟩)] w fun e w' => e = .returned (.int .i64 0) ∧ ∃ ad' cb' F' S' O', F ≤ F' ∧ F' ≤ A ∧ LBox w' p ⟨.pointer (some ⟨d, 0, none⟩), first, count, (T : Int), (A : Int) + 1, (E : Int) + 1, (E : Int) + 1, .slice ad' (n - (F' - F)) cb', (F' : Int) + 1, ls⟩ ∧ BsAt w' ad' (n - (F' - F)) cb' (lb.drop (F' - F)) ∧ Newer w (.slice ad n cb) (.slice ad' (n - (F' - F)) cb') ∧ Dv.Dev w' d bs bo nb 0 false S' O' ∧ Outside first count S O S' O' ∧ Fr [p, d, bs, bo] w w' := by
  have n2 := hdv.n2
  have f2 : first ≤ 65536 := by omega
  have c1 : count ≤ 65536 := by omega
  have k0 : w.cell? ⟨p, 0, none⟩ = some (.pointer (some ⟨d, 0, none⟩)) := hx.c0
  have k5 : w.cell? ⟨p, 5, none⟩ = some (.int .i64 ((P : Int) + 1)) := hx.c5
  have k6 : w.cell? ⟨p, 6, none⟩ = some (.int .i64 ((E : Int) + 1)) := hx.c6
  have hpL : p ∉ [d, bo] := by simp; exact ⟨hp1, hp3⟩
  have HD := hidI hdv
  have HX := hidI hx
  have HB := hidI hb
  have HL := hidI hl
  clear hdv hx hb hl
  by_cases hsafe : P = E
  · subst hsafe
    go_enter Tryz.func84, Tryz.ntmps84
    go_wp2_with (go_at_call 177; refine (lmade_yes _ p d k0).mono ?_; rintro e w ⟨rfl, rfl⟩)
    go_quiet (fail)
    have fd := (Fr.refl [] w).drewN nq
    have L1 := hidI (HX.out.kept fd (by simp))
    have D1 := hidI (dev_kept HD.out fd (by simp) (by simp) (by simp))
    have B1 := hidI (own0_kept HB.out fd (by simp))
    generalize w.drewN nq = w1 at fd L1 D1 B1 ⊢
    go_wp2
    go_ret
    exact ⟨rfl, ad, cb, F, S, O, Nat.le_refl _, hFA, by rw [Nat.sub_self, Nat.sub_zero]; exact L1.out, by rw [Nat.sub_self, Nat.sub_zero, List.drop_zero]; exact B1.out, Newer.refl _ _ _ _ _ _, D1.out, Outside.refl _ _ _ _, fd.mono (fun _ _ e => nomatch e)⟩
  · have q1 : (((P : Int) + 1) == (E : Int) + 1) = false := by rw [beq_eq_false_iff_ne]; omega
    have hlt : P < E := by omega
    have hn0 : 0 < n := by omega
    obtain ⟨gb, rfl, -, hncb⟩ := BsAt.at HB.out hn0 HL.out
    go_enter Tryz.func84, Tryz.ntmps84
    go_wp2_with (go_at_call 177; refine (lmade_yes _ p d k0).mono ?_; rintro e w ⟨rfl, rfl⟩)
    go_quiet (fail)
    have fd := (Fr.refl [] w).drewN nq
    have L1 := hidI (HX.out.kept fd (by simp))
    have D1 := hidI (dev_kept HD.out fd (by simp) (by simp) (by simp))
    have B1 := hidI (own0_kept HB.out fd (by simp))
    generalize w.drewN nq = w1 at fd L1 D1 B1 ⊢
    have k51 : w1.cell? ⟨p, 5, none⟩ = some (.int .i64 ((P : Int) + 1)) := L1.out.c5
    clear k0 k5 k6
    go_wp2_with fail
    go_loopw [3] (fun s3 wr => ∃ (Q : Nat) (O' : Dv.Tab), P ≤ Q ∧ s3 = .int .i64 ((Q : Int) + 1) ∧ Hid (LBox wr p ⟨.pointer (some ⟨d, 0, none⟩), first, count, (T : Int), (A : Int) + 1, (P : Int) + 1, (E : Int) + 1, .slice (some ⟨gb, 0, none⟩) n cb, (F : Int) + 1, ls⟩) ∧ Hid (BsAt wr (some ⟨gb, 0, none⟩) n cb lb) ∧ Hid (Dv.Dev wr d bs bo nb 0 false S O') ∧ Hid (Outside first count S O S O') ∧ Hid (Fr [d, bo] w1 wr)) (fun s3 _ => E + 1 - (intOf s3).toNat)
    case atStart => exact ⟨P, O, Nat.le_refl _, rfl, L1, B1, D1, hidI (Outside.refl _ _ _ _), hidI (Fr.refl _ _)⟩
    case round =>
      obtain ⟨Q, O', hPQ, rfl, LR, BR, DR, OR, FR⟩ := hrel
      have k6 : wr.cell? ⟨p, 6, none⟩ = some (.int .i64 ((E : Int) + 1)) := LR.out.c6
      by_cases hQ : Q < E
      · have q2 : ((Q : Int) + 1) < (E : Int) + 1 := by omega
        obtain ⟨M, HM⟩ : ∃ M, Hid (Q % 408 = M) := ⟨_, rfl⟩
        have hM1 : M < 408 := by rw [← HM.out]; exact Nat.mod_lt _ (by omega)
        have hIB := inBlock_any
        have HIB : Hid (∀ w', Calls Tryz.prog 183 #[.int .i64 ((Q : Int) + 1)] w' fun e w'' => e = .returned (.int .i64 (M : Int)) ∧ w'' = w') := hidI (fun w' => by
          have := inBlock_any w' Q (by omega)
          rw [HM.out] at this
          exact this)
        clear hIB
        obtain ⟨gx, egx, byR, -⟩ := BsAt.at BR.out hn0 HL.out
        cases egx
        obtain ⟨KB, HKB⟩ : ∃ KB, Hid (first + (Q : Int) / 408 % count = KB) := ⟨_, rfl⟩
        have hkb0 : 0 ≤ (Q : Int) / 408 % count := Int.emod_nonneg _ (by omega)
        have hkb1 : (Q : Int) / 408 % count < count := Int.emod_lt_of_pos _ (by omega)
        have hK0 : first ≤ KB := by rw [← HKB.out]; omega
        have hK1 : KB < first + count := by rw [← HKB.out]; omega
        have HBK : Hid (∀ w', Calls Tryz.prog 185 #[.agg #[.pointer (some ⟨d, 0, none⟩), .int .i64 first, .int .i64 count], .int .i64 ((Q : Int) + 1)] w' fun e w'' => e = .returned (.int .i64 KB) ∧ Fr [] w' w'') := hidI (fun w' => by
          have := block_any w' (.pointer (some ⟨d, 0, none⟩)) first count Q (by omega) f0 f2 c0 c1
          rw [HKB.out] at this
          exact this)
        clear hkb0 hkb1
        go_wp2_with fail
        refine (laid_weak wr p d bs bo nb 0 S O' DR.out first count _ _ T F E Q gb cb n ls lb LR.out HL.out hncb byR hn (by omega) hQ (by omega) hT f0 f1 f2 c0 c1).mono ?_
        rintro e w2 ⟨g, l, rfl, rw2, hl2, hg2, f2'⟩
        have L2 := LR.out.kept f2' (by simp)
        have D2 := dev_kept DR.out f2' (by simp) (by simp) (by simp)
        have B2 := hidI (own0_kept BR.out f2' (by simp))
        clear byR k6
        go_wp2_with fail
        go_cut [6] from 41 to 59 (fun s6 wx => s6 = .int .i64 0 ∧ Dv.Dev wx d bs bo nb 0 false S (Dv.Tab.put O' KB l) ∧ Fr [d, bo] w2 wx)
        case first => as_aux_lemma =>
          obtain ⟨W0, HW0⟩ : ∃ W0, Hid (W0 = w2) := ⟨_, rfl⟩
          have gg : Fr [] W0 w2.drew := (by rw [HW0.out]; exact (Fr.refl _ _).drew)
          rw [← HW0.out] at L2 D2 rw2
          have SK : Hid (∀ w', Fr [] W0 w' → w'.cell? ⟨p, 0, none⟩ = some (.pointer (some ⟨d, 0, none⟩)) ∧ w'.cell? ⟨p, 1, none⟩ = some (.int .i64 first) ∧ w'.cell? ⟨p, 2, none⟩ = some (.int .i64 count)) := hidI (fun w' f => ⟨(L2.kept f (by simp)).c0, (L2.kept f (by simp)).c1, (L2.kept f (by simp)).c2⟩)
          have k0 := SK.out _ gg
          go_region_held3 (fun w' => w'.cell? ⟨p, 0, none⟩ = some (.pointer (some ⟨d, 0, none⟩)) ∧ w'.cell? ⟨p, 1, none⟩ = some (.int .i64 first) ∧ w'.cell? ⟨p, 2, none⟩ = some (.int .i64 count)) (first | exact SK.out _ gg | exact kk)
            ((first
              | (go_at_call 185; refine (HBK.out _).mono ?_; rintro e w7 ⟨rfl, f7⟩; replace gg := gg.trans f7)
              | (go_at_call 129; refine (Dv.write_dev (dev_kept D2 gg (by simp) (by simp) (by simp)) KB (by omega) (by omega) g 0 512 l hl2 (src_of (rw2.kept gg (by simp)))).mono ?_; rintro e w8 ⟨rfl, D8, f8⟩; have g8 : Fr [d, bo] W0 w8 := (gg.mono (M := [d, bo]) (fun _ _ e => nomatch e)).trans (fr_dv f8); have kk := And.intro (L2.kept g8 hpL).c0 (And.intro (L2.kept g8 hpL).c1 (L2.kept g8 hpL).c2); rw [show Dv.told (Dv.crash 0) = 0 from rfl])))
          all_goals go_wp2
          all_goals go_meet
          all_goals (have HW := HW0.out; subst HW)
          all_goals exact ⟨rfl, D8, g8⟩
        obtain ⟨rfl, D3, f3⟩ := hcut
        have hdv2 := D2
        have L3 := hidI (L2.kept f3 hpL)
        have B3 : Hid (BsAt wc (some ⟨gb, 0, none⟩) n cb lb) := hidI (own0_kept B2.out f3 (dev_types D2))
        have D3' := hidI D3
        have O3 := hidI (OR.out.put KB l hK0 hK1)
        have F3 := hidI (FR.out.trans ((f2'.mono (M := [d, bo]) (fun _ _ e => nomatch e)).trans f3))
        have hwA : IntKind.i64.wrap (408 - (M : Int)) = 408 - (M : Int) := wrapI _ (by omega) (by omega)
        have hwB : IntKind.i64.wrap ((Q : Int) + 1 + (408 - (M : Int))) = (Q : Int) + 1 + (408 - (M : Int)) := wrapI _ (by omega) (by omega)
        clear L2 D2 D3 hdv2 f3 f2' rw2
        go_wp2_with (go_at_call 183; refine (HIB.out _).mono ?_; rintro e wz ⟨rfl, hz⟩; rw [hz]; clear hz)
        exact ⟨⟨Q + (408 - M), _, by omega, by go_num, L3, B3, D3', O3, F3⟩, by simp [intOf]; omega⟩
      · have q2 : ¬ ((Q : Int) + 1) < (E : Int) + 1 := by omega
        have k0 : wr.cell? ⟨p, 0, none⟩ = some (.pointer (some ⟨d, 0, none⟩)) := LR.out.c0
        have LRo := LR.out
        have DRo := DR.out
        go_wp2_with fail
        refine (Dv.sync_dev DRo rfl).mono ?_
        rintro e w4 ⟨rfl, D4, f4⟩
        have f4' := fr_dv f4
        have L4 := LRo.kept f4' (by simp; exact ⟨hp1, hp2, hp3⟩)
        have B4 := own0_kept BR.out f4' (dev_types3 DRo)
        have k64 : w4.cell? ⟨p, 6, none⟩ = some (.int .i64 ((E : Int) + 1)) := L4.c6
        have k54 := L4.c5
        have z54 := L4.fz 5
        have L5 := hidI (L4.s5 ((E : Int) + 1))
        have D5 := hidI (dev_kept D4 (fr_set w4 p 5 (.int .i64 ((E : Int) + 1))) (by simpa using hp1.symm) (by simpa using hp2.symm) (by simpa using hp3.symm))
        have B5 := hidI (own0_kept B4 (fr_set w4 p 5 (.int .i64 ((E : Int) + 1))) (box_types L4))
        have F5 : Hid (Fr [p, d, bs, bo] w (w4.setCell ⟨p, 5, none⟩ (.int .i64 ((E : Int) + 1)))) := hidI ((((fd.mono (M := [p, d, bs, bo]) (fun _ _ e => nomatch e)).trans (FR.out.mono (by simp; omega))).trans (f4'.mono (by simp; omega))).trans ((fr_set w4 p 5 _).mono (by intro k _ hk; simp at hk; simp [hk])))
        have O5 := hidI OR.out.sync
        clear L4 B4 D4 f4 f4' LRo DRo k6 k0
        go_wp2_with fail
        refine (letGo_any _ p _ first count _ A E E F A n cb (some ⟨gb, 0, none⟩) ls lb L5.out B5.out HL.out hn1 (by omega) hFA (by omega) (by omega)).mono ?_
        rintro e w6 ⟨rfl, ad', cb', L6, B6, NW6, f6⟩
        have D6 := dev_kept D5.out f6 (by simpa using hp1.symm) (by simpa using hp2.symm) (by simpa using hp3.symm)
        go_wp2_with fail
        go_ret
        exact ⟨rfl, ad', cb', A, _, _, hFA, Nat.le_refl _, L6, B6, (fun g' hg' => (NW6 g' hg').imp id (fun h1 => Nat.le_trans F5.out.size h1)), D6, O5.out, F5.out.trans (f6.mono (by intro k _ hk; simp at hk; simp [hk]))⟩

end Go.Proofs.YtopaeomjndblkaaGreat
