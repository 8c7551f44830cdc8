/-
  The pool's map of pages: which frame a page is in.
-/
import Derived.Test.YthajipigppndgaaGreatY13Z
import Derived.Maps.OwnSet
namespace Go.Proofs.YthajipigppndgaaGreat
open Go.RowKit Go.Maps

/-- A row behind a call: where it lay, or in new memory. -/
def Newer (w : World) (v v' : Value) : Prop := ∀ g ∈ v'.ownBlock.toList, g ∈ v.ownBlock.toList ∨ w.heap.size ≤ g
theorem CopAt.new {w0 w : World} {ad : Option Addr} {l : List UInt8} (h : CopAt w0 w ad l) {n c : Nat} : ∀ g ∈ (Value.ownBlock (.slice ad n c)).toList, w0.heap.size ≤ g := by
  intro g hg
  cases ad with
  | none => simp [Value.ownBlock] at hg
  | some a =>
    obtain ⟨g', rfl, h1, _⟩ := h.at' a rfl
    simp [Value.ownBlock] at hg
    omega
theorem Newer.refl (w : World) (a : Option Addr) (n c n' c' : Nat) : Newer w (.slice a n c) (.slice a n' c') := fun g hg => Or.inl (by cases a <;> exact hg)
set_option maxHeartbeats 1000000 in
set_option maxRecDepth 100000 in
theorem letGo_any (w : World) (p : Nat) (dv : Value) (first count turn : Int) (A P E F M n cb : Nat) (ad : Option Addr) (ls : Value) (lb : List UInt8)
    (hx : LBox w p ⟨dv, first, count, turn, (A : Int) + 1, (P : Int) + 1, (E : Int) + 1, .slice ad n cb, (F : Int) + 1, ls⟩) (hb : BsAt w ad n cb lb) (hl : lb.length = n) (hn : n ≤ 1000000) (hM : M = min A P) (hFM : F ≤ M) (hMn : M - F ≤ n) (hA : A < 4611686018427380000) :
    Calls Tryz.prog 105 #[.pointer (some ⟨p, 0, none⟩)] w fun e w' => e = .returned (.tuple #[]) ∧ ∃ ad' cb', LBox w' p ⟨dv, first, count, turn, (A : Int) + 1, (P : Int) + 1, (E : Int) + 1, .slice ad' (n - (M - F)) cb', (M : Int) + 1, ls⟩ ∧ BsAt w' ad' (n - (M - F)) cb' (lb.drop (M - F)) ∧ Newer w (.slice ad n cb) (.slice ad' (n - (M - F)) cb') ∧ Fr [p] w w' := by
  have c4 : w.cell? ⟨p, 4, none⟩ = some (.int .i64 ((A : Int) + 1)) := hx.c4
  have c5 : w.cell? ⟨p, 5, none⟩ = some (.int .i64 ((P : Int) + 1)) := hx.c5
  have hm2 : (if P < A then (P : Int) + 1 else (A : Int) + 1) = (M : Int) + 1 := by split <;> omega
  have HMM := hidI hM
  have hMA : M ≤ A := by omega
  obtain ⟨k, HK⟩ : ∃ k, Hid (M - F = k) := ⟨_, rfl⟩
  rw [HK.out] at hMn ⊢
  have HX := hidI hx
  have HB := hidI hb
  have HL : Hid (lb.length = n) := hl
  clear hx hb hl hM
  go_enter Tryz.func105, Tryz.ntmps105
  go_wp2_with fail
  go_quiet (fail)
  try simp only [hm2]
  have f := (Fr.refl [] w).drewN nq
  have L1 := HX.out.kept f (by simp)
  have B1 := own0_kept HB.out f (by simp)
  generalize w.drewN nq = w1 at f L1 B1 ⊢
  have c8 : w1.cell? ⟨p, 8, none⟩ = some (.int .i64 ((F : Int) + 1)) := L1.c8
  clear c4 c5 hm2
  by_cases hMF : M = F
  · subst hMF
    clear HMM
    obtain rfl : k = 0 := by have := HK.out; omega
    clear HK
    go_wp2
    refine bodyPost_ret (results_none Tryz.results105 _ _ _) rfl ⟨rfl, ad, cb, ?_⟩
    rw [Nat.sub_zero, List.drop_zero]
    exact ⟨L1, B1, Newer.refl _ _ _ _ _ _, f.mono (fun _ _ h => nomatch h)⟩
  · have q1 : (((M : Int) + 1) == ((F : Int) + 1)) = false := by rw [beq_eq_false_iff_ne]; omega
    have hk0 : 0 < k := by rw [← HK.out]; omega
    have hn0 : 0 < n := by omega
    obtain ⟨g, rfl, by1, hncb⟩ := BsAt.at B1 hn0 HL.out
    have hw : IntKind.i64.wrap ((M : Int) + 1 - ((F : Int) + 1)) = (k : Int) := by rw [← HK.out, show (M : Int) + 1 - ((F : Int) + 1) = ((M - F : Nat) : Int) by omega]; exact wrapI _ (by omega) (by omega)
    obtain ⟨oY, HOY, hdpY⟩ : ∃ oY, Hid (cb = k ∨ oY = k) ∧ (if cb = k then some (⟨g, 0, none⟩ : Addr) else some ⟨g, k, none⟩) = some ⟨g, oY, none⟩ := by
      by_cases e : cb = k
      · exact ⟨0, Or.inl e, by rw [if_pos e]⟩
      · exact ⟨k, Or.inr rfl, by rw [if_neg e]⟩
    have HSB : Hid (∀ w', Fr [] w1 w' → BytesAt w' (some ⟨g, oY, none⟩) (lb.drop k)) := hidI (fun w' ff => by
      rcases HOY.out with e | rfl
      · have h0 : lb.drop k = [] := List.drop_of_length_le (by have := HL.out; omega)
        rw [h0]
        exact BytesAt.nil w' _
      · have := (by1.kept ff (by simp)).sub oY (n - oY)
        rw [Nat.zero_add, List.take_of_length_le (by rw [List.length_drop, HL.out]; exact Nat.le_refl _)] at this
        exact this)
    have HLD : Hid ((lb.drop k).length = n - k) := hidI (by rw [List.length_drop, HL.out])
    have hk1 : (k : Int) ≤ (n : Int) := by omega
    have hk2 : (k : Int) ≤ (cb : Int) := by omega
    have hkz : (0 : Int) ≤ (k : Int) := by omega
    have hkn : k ≤ n := by omega
    have c7 : w1.cell? ⟨p, 7, none⟩ = some (.slice (some ⟨g, 0, none⟩) n cb) := L1.c7
    have LX := hidI L1
    clear L1 B1 by1 hMF HK
    go_wp2_with fail
    go_region_law ((go_simp; go_at_call 177; refine (copied_any _ (some ⟨g, oY, none⟩) (n - k) (cb - k) (lb.drop k) HLD.out (HSB.out _ (Fr.refl [] w1).drew) (by omega)).mono ?_; rintro e w3 ⟨ad', rfl, cp, f3⟩; have d7 : w3.cell? ⟨p, 7, none⟩ = some (.slice (some ⟨g, 0, none⟩) n cb) := (LX.out.kept ((Fr.refl [] w1).drew.trans f3) (by simp)).c7; have z7 := (LX.out.kept ((Fr.refl [] w1).drew.trans f3) (by simp)).fz 7; have d8 : w3.cell? ⟨p, 8, none⟩ = some (.int .i64 ((F : Int) + 1)) := (LX.out.kept ((Fr.refl [] w1).drew.trans f3) (by simp)).c8; have z8 := (LX.out.kept ((Fr.refl [] w1).drew.trans f3) (by simp)).fz 8))
    all_goals
      have g3 : Fr [] w1 w3 := (Fr.refl [] w1).drew.trans f3
      have L3 := hidI (LX.out.kept g3 (by simp))
      have hbs : BsAt w3 ad' (n - k) (n - k) (lb.drop k) := CopAt.bs ⟨cp.nil, cp.at'⟩ HLD.out (by omega)
      have HBS := hidI hbs
      have HNW : Hid (Newer w (.slice (some ⟨g, 0, none⟩) n cb) (.slice ad' (n - k) (n - k))) := hidI (fun g' hg' => Or.inr (by have h1 := CopAt.new cp g' hg'; have h2 := f.size; simp at h1; omega))
      clear cp hbs f3
      go_wp2_with fail
      go_end0
      refine ⟨rfl, ad', n - k, (L3.out.s7 (.slice ad' (n - k) (n - k))).s8 ((M : Int) + 1), ?_, HNW.out, ?_⟩
      · refine own0_kept (L := [p]) HBS.out (((Fr.refl [p] w3).setCell _ _ (by simp)).setCell _ _ (by simp)) ?_
        intro g' hg' cur ty hc
        simp at hg'
        subst hg'
        have hL := L3.out
        unfold LBox at hL
        rw [hL] at hc
        cases hc
        decide
      · exact ((((f.trans g3).mono (M := [p]) (fun _ _ h => nomatch h)).setCell _ _ (by simp)).setCell _ _ (by simp))

theorem dev_types {w : World} {d bs bo : Nat} {n a : Int} {dn : Bool} {S O : Dv.Tab} (h : Dv.Dev w d bs bo n a dn S O) : ∀ g ∈ [d, bo], ∀ cur t, w.heap[g]? = some (.cells cur t) → t ≠ 5 := by
  intro g hg cur t e
  simp at hg
  rcases hg with rfl | rfl
  · rw [h.cells] at e
    cases e
    decide
  · obtain ⟨D, ⟨es, clock, hb, _⟩, _⟩ := h.opn
    rw [hb] at e
    cases e
theorem dev_types3 {w : World} {d bs bo : Nat} {n a : Int} {dn : Bool} {S O : Dv.Tab} (h : Dv.Dev w d bs bo n a dn S O) : ∀ g ∈ [d, bs, bo], ∀ cur t, w.heap[g]? = some (.cells cur t) → t ≠ 5 := by
  intro g hg cur t e
  simp at hg
  rcases hg with rfl | rfl | rfl
  · exact dev_types h _ (by simp) _ _ e
  · obtain ⟨D, ⟨es, clock, hb, _⟩, _⟩ := h.safe
    rw [hb] at e
    cases e
  · exact dev_types h _ (by simp) _ _ e
theorem box_types {w : World} {p : Nat} {x : Lg} (h : LBox w p x) : ∀ g ∈ [p], ∀ cur t, w.heap[g]? = some (.cells cur t) → t ≠ 5 := by
  intro g hg cur t e
  simp at hg
  subst hg
  unfold LBox at h
  rw [h] at e
  cases e
  decide
/-- Outside the log's area nothing has changed. -/
def Outside (first count : Int) (S O S' O' : Dv.Tab) : Prop := ∀ k, (k < first ∨ first + count ≤ k) → Dv.latest S' O' k = Dv.latest S O k
theorem Outside.refl (first count : Int) (S O : Dv.Tab) : Outside first count S O S O := fun _ _ => rfl
theorem Outside.put {first count : Int} {S O S' O' : Dv.Tab} (h : Outside first count S O S' O') (k : Int) (l : List UInt8) (h0 : first ≤ k) (h1 : k < first + count) : Outside first count S O S' (Dv.Tab.put O' k l) := by
  intro j hj
  rw [← h j hj]
  unfold Dv.latest Dv.Tab.put
  rw [if_neg (by omega)]
theorem Outside.sync {first count : Int} {S O S' O' : Dv.Tab} (h : Outside first count S O S' O') : Outside first count S O (Dv.over S' O') Dv.Tab.none := by
  intro j hj
  rw [← h j hj]
  unfold Dv.latest Dv.over Dv.Tab.none Dv.Tab.get
  cases e : O' j <;> simp [e]

set_option maxHeartbeats 2000000 in
set_option maxRecDepth 100000 in
theorem force_weak (w : World) (p d bs bo : Nat) (nb : Int) (S O : Dv.Tab) (hdv : Dv.Dev w d bs bo nb 0 false S O) (first count : Int) (T A P E F n cb : Nat) (ad : Option Addr) (ls : Value) (lb : List UInt8)
    (hx : LBox w p ⟨.pointer (some ⟨d, 0, none⟩), first, count, (T : Int), (A : Int) + 1, (P : Int) + 1, (E : Int) + 1, .slice ad n cb, (F : Int) + 1, ls⟩) (hb : BsAt w ad n cb lb) (hl : lb.length = n) (hn : F + n = E) (hn1 : n ≤ 1000000) (hFP : F ≤ P) (hPE : P ≤ E) (hFA : F ≤ A) (hAE : A ≤ E) (hE : E < 4611686018427370000) (hT : T < 2147483648)
    (f0 : 0 ≤ first) (f1 : first + count ≤ nb) (c0 : 4 ≤ count) (hp1 : p ≠ d) (hp2 : p ≠ bs) (hp3 : p ≠ bo) :
    Calls Tryz.prog 51 #[.pointer (some ⟨p, 0, none⟩)] w fun e w' => e = .returned (.int .i64 0) ∧ ∃ ad' cb' F' S' O', F ≤ F' ∧ F' ≤ A ∧ LBox w' p ⟨.pointer (some ⟨d, 0, none⟩), first, count, (T : Int), (A : Int) + 1, (E : Int) + 1, (E : Int) + 1, .slice ad' (n - (F' - F)) cb', (F' : Int) + 1, ls⟩ ∧ BsAt w' ad' (n - (F' - F)) cb' (lb.drop (F' - F)) ∧ Newer w (.slice ad n cb) (.slice ad' (n - (F' - F)) cb') ∧ Dv.Dev w' d bs bo nb 0 false S' O' ∧ Outside first count S O S' O' ∧ Fr [p, d, bs, bo] w w' := by
  have n2 := hdv.n2
  have f2 : first ≤ 65536 := by omega
  have c1 : count ≤ 65536 := by omega
  have k0 : w.cell? ⟨p, 0, none⟩ = some (.pointer (some ⟨d, 0, none⟩)) := hx.c0
  have k5 : w.cell? ⟨p, 5, none⟩ = some (.int .i64 ((P : Int) + 1)) := hx.c5
  have k6 : w.cell? ⟨p, 6, none⟩ = some (.int .i64 ((E : Int) + 1)) := hx.c6
  have hpL : p ∉ [d, bo] := by simp; exact ⟨hp1, hp3⟩
  have HD := hidI hdv
  have HX := hidI hx
  have HB := hidI hb
  have HL := hidI hl
  clear hdv hx hb hl
  by_cases hsafe : P = E
  · subst hsafe
    go_enter Tryz.func51, Tryz.ntmps51
    go_wp2_with (go_at_call 99; refine (lmade_yes _ p d k0).mono ?_; rintro e w ⟨rfl, rfl⟩)
    go_quiet (fail)
    have fd := (Fr.refl [] w).drewN nq
    have L1 := hidI (HX.out.kept fd (by simp))
    have D1 := hidI (dev_kept HD.out fd (by simp) (by simp) (by simp))
    have B1 := hidI (own0_kept HB.out fd (by simp))
    generalize w.drewN nq = w1 at fd L1 D1 B1 ⊢
    go_wp2
    go_ret
    exact ⟨rfl, ad, cb, F, S, O, Nat.le_refl _, hFA, by rw [Nat.sub_self, Nat.sub_zero]; exact L1.out, by rw [Nat.sub_self, Nat.sub_zero, List.drop_zero]; exact B1.out, Newer.refl _ _ _ _ _ _, D1.out, Outside.refl _ _ _ _, fd.mono (fun _ _ e => nomatch e)⟩
  · have q1 : (((P : Int) + 1) == (E : Int) + 1) = false := by rw [beq_eq_false_iff_ne]; omega
    have hlt : P < E := by omega
    have hn0 : 0 < n := by omega
    obtain ⟨gb, rfl, -, hncb⟩ := BsAt.at HB.out hn0 HL.out
    go_enter Tryz.func51, Tryz.ntmps51
    go_wp2_with (go_at_call 99; refine (lmade_yes _ p d k0).mono ?_; rintro e w ⟨rfl, rfl⟩)
    go_quiet (fail)
    have fd := (Fr.refl [] w).drewN nq
    have L1 := hidI (HX.out.kept fd (by simp))
    have D1 := hidI (dev_kept HD.out fd (by simp) (by simp) (by simp))
    have B1 := hidI (own0_kept HB.out fd (by simp))
    generalize w.drewN nq = w1 at fd L1 D1 B1 ⊢
    have k51 : w1.cell? ⟨p, 5, none⟩ = some (.int .i64 ((P : Int) + 1)) := L1.out.c5
    clear k0 k5 k6
    go_wp2_with fail
    go_loopw [3] (fun s3 wr => ∃ (Q : Nat) (O' : Dv.Tab), P ≤ Q ∧ s3 = .int .i64 ((Q : Int) + 1) ∧ Hid (LBox wr p ⟨.pointer (some ⟨d, 0, none⟩), first, count, (T : Int), (A : Int) + 1, (P : Int) + 1, (E : Int) + 1, .slice (some ⟨gb, 0, none⟩) n cb, (F : Int) + 1, ls⟩) ∧ Hid (BsAt wr (some ⟨gb, 0, none⟩) n cb lb) ∧ Hid (Dv.Dev wr d bs bo nb 0 false S O') ∧ Hid (Outside first count S O S O') ∧ Hid (Fr [d, bo] w1 wr)) (fun s3 _ => E + 1 - (intOf s3).toNat)
    case atStart => exact ⟨P, O, Nat.le_refl _, rfl, L1, B1, D1, hidI (Outside.refl _ _ _ _), hidI (Fr.refl _ _)⟩
    case round =>
      obtain ⟨Q, O', hPQ, rfl, LR, BR, DR, OR, FR⟩ := hrel
      have k6 : wr.cell? ⟨p, 6, none⟩ = some (.int .i64 ((E : Int) + 1)) := LR.out.c6
      by_cases hQ : Q < E
      · have q2 : ((Q : Int) + 1) < (E : Int) + 1 := by omega
        obtain ⟨M, HM⟩ : ∃ M, Hid (Q % 408 = M) := ⟨_, rfl⟩
        have hM1 : M < 408 := by rw [← HM.out]; exact Nat.mod_lt _ (by omega)
        have hIB := inBlock_any
        have HIB : Hid (∀ w', Calls Tryz.prog 100 #[.int .i64 ((Q : Int) + 1)] w' fun e w'' => e = .returned (.int .i64 (M : Int)) ∧ w'' = w') := hidI (fun w' => by
          have := inBlock_any w' Q (by omega)
          rw [HM.out] at this
          exact this)
        clear hIB
        obtain ⟨gx, egx, byR, -⟩ := BsAt.at BR.out hn0 HL.out
        cases egx
        obtain ⟨KB, HKB⟩ : ∃ KB, Hid (first + (Q : Int) / 408 % count = KB) := ⟨_, rfl⟩
        have hkb0 : 0 ≤ (Q : Int) / 408 % count := Int.emod_nonneg _ (by omega)
        have hkb1 : (Q : Int) / 408 % count < count := Int.emod_lt_of_pos _ (by omega)
        have hK0 : first ≤ KB := by rw [← HKB.out]; omega
        have hK1 : KB < first + count := by rw [← HKB.out]; omega
        have HBK : Hid (∀ w', Calls Tryz.prog 103 #[.agg #[.pointer (some ⟨d, 0, none⟩), .int .i64 first, .int .i64 count], .int .i64 ((Q : Int) + 1)] w' fun e w'' => e = .returned (.int .i64 KB) ∧ Fr [] w' w'') := hidI (fun w' => by
          have := block_any w' (.pointer (some ⟨d, 0, none⟩)) first count Q (by omega) f0 f2 c0 c1
          rw [HKB.out] at this
          exact this)
        clear hkb0 hkb1
        go_wp2_with fail
        refine (laid_weak wr p d bs bo nb 0 S O' DR.out first count _ _ T F E Q gb cb n ls lb LR.out HL.out hncb byR hn (by omega) hQ (by omega) hT f0 f1 f2 c0 c1).mono ?_
        rintro e w2 ⟨g, l, rfl, rw2, hl2, hg2, f2'⟩
        have L2 := LR.out.kept f2' (by simp)
        have D2 := dev_kept DR.out f2' (by simp) (by simp) (by simp)
        have B2 := hidI (own0_kept BR.out f2' (by simp))
        clear byR k6
        go_wp2_with fail
        go_cut [6] from 41 to 59 (fun s6 wx => s6 = .int .i64 0 ∧ Dv.Dev wx d bs bo nb 0 false S (Dv.Tab.put O' KB l) ∧ Fr [d, bo] w2 wx)
        case first => as_aux_lemma =>
          obtain ⟨W0, HW0⟩ : ∃ W0, Hid (W0 = w2) := ⟨_, rfl⟩
          have gg : Fr [] W0 w2.drew := (by rw [HW0.out]; exact (Fr.refl _ _).drew)
          rw [← HW0.out] at L2 D2 rw2
          have SK : Hid (∀ w', Fr [] W0 w' → w'.cell? ⟨p, 0, none⟩ = some (.pointer (some ⟨d, 0, none⟩)) ∧ w'.cell? ⟨p, 1, none⟩ = some (.int .i64 first) ∧ w'.cell? ⟨p, 2, none⟩ = some (.int .i64 count)) := hidI (fun w' f => ⟨(L2.kept f (by simp)).c0, (L2.kept f (by simp)).c1, (L2.kept f (by simp)).c2⟩)
          have k0 := SK.out _ gg
          go_region_held3 (fun w' => w'.cell? ⟨p, 0, none⟩ = some (.pointer (some ⟨d, 0, none⟩)) ∧ w'.cell? ⟨p, 1, none⟩ = some (.int .i64 first) ∧ w'.cell? ⟨p, 2, none⟩ = some (.int .i64 count)) (first | exact SK.out _ gg | exact kk)
            ((first
              | (go_at_call 103; refine (HBK.out _).mono ?_; rintro e w7 ⟨rfl, f7⟩; replace gg := gg.trans f7)
              | (go_at_call 102; refine (Dv.write_dev (dev_kept D2 gg (by simp) (by simp) (by simp)) KB (by omega) (by omega) g 0 512 l hl2 (src_of (rw2.kept gg (by simp)))).mono ?_; rintro e w8 ⟨rfl, D8, f8⟩; have g8 : Fr [d, bo] W0 w8 := (gg.mono (M := [d, bo]) (fun _ _ e => nomatch e)).trans (fr_dv f8); have kk := And.intro (L2.kept g8 hpL).c0 (And.intro (L2.kept g8 hpL).c1 (L2.kept g8 hpL).c2); rw [show Dv.told (Dv.crash 0) = 0 from rfl])))
          all_goals go_wp2
          all_goals go_meet
          all_goals (have HW := HW0.out; subst HW)
          all_goals exact ⟨rfl, D8, g8⟩
        obtain ⟨rfl, D3, f3⟩ := hcut
        have hdv2 := D2
        have L3 := hidI (L2.kept f3 hpL)
        have B3 : Hid (BsAt wc (some ⟨gb, 0, none⟩) n cb lb) := hidI (own0_kept B2.out f3 (dev_types D2))
        have D3' := hidI D3
        have O3 := hidI (OR.out.put KB l hK0 hK1)
        have F3 := hidI (FR.out.trans ((f2'.mono (M := [d, bo]) (fun _ _ e => nomatch e)).trans f3))
        have hwA : IntKind.i64.wrap (408 - (M : Int)) = 408 - (M : Int) := wrapI _ (by omega) (by omega)
        have hwB : IntKind.i64.wrap ((Q : Int) + 1 + (408 - (M : Int))) = (Q : Int) + 1 + (408 - (M : Int)) := wrapI _ (by omega) (by omega)
        clear L2 D2 D3 hdv2 f3 f2' rw2
        go_wp2_with (go_at_call 100; refine (HIB.out _).mono ?_; rintro e wz ⟨rfl, hz⟩; rw [hz]; clear hz)
        exact ⟨⟨Q + (408 - M), _, by omega, by go_num, L3, B3, D3', O3, F3⟩, by simp [intOf]; omega⟩
      · have q2 : ¬ ((Q : Int) + 1) < (E : Int) + 1 := by omega
        have k0 : wr.cell? ⟨p, 0, none⟩ = some (.pointer (some ⟨d, 0, none⟩)) := LR.out.c0
        have LRo := LR.out
        have DRo := DR.out
        go_wp2_with fail
        refine (Dv.sync_dev DRo rfl).mono ?_
        rintro e w4 ⟨rfl, D4, f4⟩
        have f4' := fr_dv f4
        have L4 := LRo.kept f4' (by simp; exact ⟨hp1, hp2, hp3⟩)
        have B4 := own0_kept BR.out f4' (dev_types3 DRo)
        have k64 : w4.cell? ⟨p, 6, none⟩ = some (.int .i64 ((E : Int) + 1)) := L4.c6
        have k54 := L4.c5
        have z54 := L4.fz 5
        have L5 := hidI (L4.s5 ((E : Int) + 1))
        have D5 := hidI (dev_kept D4 (fr_set w4 p 5 (.int .i64 ((E : Int) + 1))) (by simpa using hp1.symm) (by simpa using hp2.symm) (by simpa using hp3.symm))
        have B5 := hidI (own0_kept B4 (fr_set w4 p 5 (.int .i64 ((E : Int) + 1))) (box_types L4))
        have F5 : Hid (Fr [p, d, bs, bo] w (w4.setCell ⟨p, 5, none⟩ (.int .i64 ((E : Int) + 1)))) := hidI ((((fd.mono (M := [p, d, bs, bo]) (fun _ _ e => nomatch e)).trans (FR.out.mono (by simp; omega))).trans (f4'.mono (by simp; omega))).trans ((fr_set w4 p 5 _).mono (by intro k _ hk; simp at hk; simp [hk])))
        have O5 := hidI OR.out.sync
        clear L4 B4 D4 f4 f4' LRo DRo k6 k0
        go_wp2_with fail
        refine (letGo_any _ p _ first count _ A E E F A n cb (some ⟨gb, 0, none⟩) ls lb L5.out B5.out HL.out hn1 (by omega) hFA (by omega) (by omega)).mono ?_
        rintro e w6 ⟨rfl, ad', cb', L6, B6, NW6, f6⟩
        have D6 := dev_kept D5.out f6 (by simpa using hp1.symm) (by simpa using hp2.symm) (by simpa using hp3.symm)
        go_wp2_with fail
        go_ret
        exact ⟨rfl, ad', cb', A, _, _, hFA, Nat.le_refl _, L6, B6, (fun g' hg' => (NW6 g' hg').imp id (fun h1 => Nat.le_trans F5.out.size h1)), D6, O5.out, F5.out.trans (f6.mono (by intro k _ hk; simp at hk; simp [hk]))⟩

end Go.Proofs.YthajipigppndgaaGreat

namespace Go.Proofs.YthajipigppndgaaGreat
open Go.RowKit Go.Maps

/-- A frame: its block, the page, its bytes, how often it is held, whether it was asked for, the first and the last lsn. -/
structure Fm where
  b : Nat
  pg : Nat
  l : List UInt8
  hd : Int
  ask : Bool
  fst : Int
  lst : Int
def fmP (f : Fm) : List Value := .int .i64 (f.pg : Int) :: (arr f.l).toList
def fmT (f : Fm) : List Value := [.int .i64 f.hd, .bool f.ask, .int .i64 f.fst, .int .i64 f.lst]
def fmV (f : Fm) : List Value := fmP f ++ fmT f
structure FAt (w : World) (f : Fm) : Prop where
  len : f.l.length = 512
  at' : w.heap[f.b]? = some (.cells (fmV f).toArray 200)
theorem fmP_len {f : Fm} (h : f.l.length = 512) : (fmP f).length = 513 := by simp [fmP, arr, h]
theorem FAt.lt {w : World} {f : Fm} (h : FAt w f) : f.b < w.heap.size := (Array.getElem?_eq_some_iff.1 h.at').1
theorem FAt.kept {w w' : World} {f : Fm} {L : List Nat} (h : FAt w f) (k : Fr L w w') (hb : f.b ∉ L) : FAt w' f := ⟨h.len, k.same hb h.at'⟩
theorem FAt.fz {w : World} {f : Fm} (h : FAt w f) (j : Nat) : w.frozen? ⟨f.b, j, none⟩ = false := frozen_of_row w f.b j _ _ h.at'
theorem FAt.cell {w : World} {f : Fm} (h : FAt w f) (j : Nat) : w.cell? ⟨f.b, j, none⟩ = (fmV f)[j]? := by
  rw [cell_of_row w f.b j _ _ _ h.at']
  simp
theorem FAt.c0 {w : World} {f : Fm} (h : FAt w f) : w.cell? ⟨f.b, 0, none⟩ = some (.int .i64 (f.pg : Int)) := by rw [h.cell]; rfl
theorem FAt.tl {w : World} {f : Fm} (h : FAt w f) (j : Nat) : w.cell? ⟨f.b, 513 + j, none⟩ = (fmT f)[j]? := by
  rw [h.cell, fmV, List.getElem?_append_right (by rw [fmP_len h.len]; omega), fmP_len h.len, Nat.add_sub_cancel_left]
theorem FAt.c2 {w : World} {f : Fm} (h : FAt w f) : w.cell? ⟨f.b, 513, none⟩ = some (.int .i64 f.hd) := h.tl 0
theorem FAt.c3 {w : World} {f : Fm} (h : FAt w f) : w.cell? ⟨f.b, 514, none⟩ = some (.bool f.ask) := h.tl 1
theorem FAt.c4 {w : World} {f : Fm} (h : FAt w f) : w.cell? ⟨f.b, 515, none⟩ = some (.int .i64 f.fst) := h.tl 2
theorem FAt.c5 {w : World} {f : Fm} (h : FAt w f) : w.cell? ⟨f.b, 516, none⟩ = some (.int .i64 f.lst) := h.tl 3
theorem set_tl (P T : List Value) (n : Nat) (hn : P.length = n) (j : Nat) (v : Value) : (P ++ T).toArray.setIfInBounds (n + j) v = (P ++ T.set j v).toArray := by
  subst hn
  apply Array.ext'
  simp
theorem FAt.s2 {w : World} {f : Fm} (h : FAt w f) (x : Int) : FAt (w.setCell ⟨f.b, 513, none⟩ (.int .i64 x)) { f with hd := x } :=
  ⟨h.len, by rw [heap_setCell_same w f.b 513 _ _ _ h.at']; exact congrArg (fun z => some (Obj.cells z 200)) (set_tl (fmP f) (fmT f) 513 (fmP_len h.len) 0 _)⟩
theorem FAt.s3 {w : World} {f : Fm} (h : FAt w f) (x : Bool) : FAt (w.setCell ⟨f.b, 514, none⟩ (.bool x)) { f with ask := x } :=
  ⟨h.len, by rw [heap_setCell_same w f.b 514 _ _ _ h.at']; exact congrArg (fun z => some (Obj.cells z 200)) (set_tl (fmP f) (fmT f) 513 (fmP_len h.len) 1 _)⟩
theorem FAt.s4 {w : World} {f : Fm} (h : FAt w f) (x : Int) : FAt (w.setCell ⟨f.b, 515, none⟩ (.int .i64 x)) { f with fst := x } :=
  ⟨h.len, by rw [heap_setCell_same w f.b 515 _ _ _ h.at']; exact congrArg (fun z => some (Obj.cells z 200)) (set_tl (fmP f) (fmT f) 513 (fmP_len h.len) 2 _)⟩
theorem FAt.s5 {w : World} {f : Fm} (h : FAt w f) (x : Int) : FAt (w.setCell ⟨f.b, 516, none⟩ (.int .i64 x)) { f with lst := x } :=
  ⟨h.len, by rw [heap_setCell_same w f.b 516 _ _ _ h.at']; exact congrArg (fun z => some (Obj.cells z 200)) (set_tl (fmP f) (fmT f) 513 (fmP_len h.len) 3 _)⟩
/-- Its bytes, as what is read of them. -/
theorem FAt.bytes {w : World} {f : Fm} (h : FAt w f) : BytesAt w (some ⟨f.b, 1, none⟩) f.l := by
  intro j v hv
  refine ⟨f.b, 1, rfl, ?_⟩
  have hj : j < (arr f.l).toList.length := (List.getElem?_eq_some_iff.1 hv).1
  have hj' : j < (arr f.l).size := by simpa using hj
  rw [h.cell, fmV, List.getElem?_append_left (by simp [fmP]; omega), fmP, Nat.add_comm 1 j, List.getElem?_cons_succ]
  exact hv

theorem over_row (x : Value) (fl : List UInt8) (t : List Value) (off : Nat) (l : List UInt8) (hfl : fl.length = 512) (hfit : off + l.length ≤ 512) :
    (x :: (arr fl).toList ++ t).take (1 + off) ++ (arr l).toList ++ (x :: (arr fl).toList ++ t).drop (1 + off + l.length) = x :: (arr (over fl off l)).toList ++ t := by
  have e1 : 1 + off = off + 1 := by omega
  have e2 : 1 + off + l.length = (off + l.length) + 1 := by omega
  rw [e2, e1, List.cons_append, List.take_succ_cons, List.drop_succ_cons, List.take_append_of_le_length (by simp [arr, hfl]; omega), List.drop_append_of_le_length (by simp [arr, hfl]; omega)]
  simp [arr, over, List.map_take, List.map_drop]
section
variable {ops : Array Oper} {rest : List Oper} {o : Oper} {a : Act} {w : World} {Q : Exit → Act → World → Prop}
/-- copy of bytes into a frame's, from a place on. -/
theorem wp_copyF (hgd : o.guard = none) (d s : Operand) (ho : o.op = .call { callee := .builtin .copy, args := #[d, s], argTypes := #[26, 26] }) (f : Fm) (off dn dc : Nat) (ad : Option Addr) (sn sc : Nat) (l : List UInt8)
    (hd : a.eval d = .slice (some ⟨f.b, 1 + off, none⟩) dn dc) (hs : a.eval s = .slice ad sn sc) (hf : FAt w f) (hl : l.length = Nat.min sn dn) (h0 : 0 < l.length) (hsrc : BytesAt w ad l) (hfit : off + l.length ≤ 512)
    (h : ∀ w', FAt w' { f with l := over f.l off l } → Fr [f.b] w w' → wpList Tryz.prog ops Q rest (a.put o.dst (goInt l.length)) w') : wpList Tryz.prog ops Q (o :: rest) a w :=
  wpList_plain hgd fun K hK => by
    obtain ⟨b0, o0, rfl, _⟩ := hsrc.at 0 h0
    have hcur := hf.at'
    have hrun := run_copy_row Tryz.prog w 26 26 o.type 5 f.b (1 + off) dn dc ⟨b0, o0, none⟩ sn sc _ 200 (arr l).toList Tryz.underlying26 size5 hcur (by simpa [arr] using hl)
      (by
        intro j v hv
        obtain ⟨b, o', e, hc⟩ := hsrc j v hv
        cases e
        rw [Addr.add_mid]
        exact hc) (by simp [arr, fmV, fmP, fmT, hf.len]; omega) (arr_one l)
    have hln : (arr l).toList.length = l.length := by simp [arr]
    simp only [hln] at hrun
    unfold Oper.wp execOp
    simp [ho, resolve, invoke, builtin, hd, hs, hrun, Result.andThen]
    refine hK _ _ (h _ ⟨by show (over f.l off l).length = 512; rw [over_length _ _ _ (by rw [hf.len]; exact hfit)]; exact hf.len, ?_⟩ ⟨rfl, rfl, rfl, by simp, fun i _ hn => setRow_other w f.b i _ (fun e => hn (by simp [e]))⟩)
    show (w.setRow f.b _).heap[f.b]? = _
    rw [setRow_heap w f.b _ _ 200 _ hcur]
    refine congrArg (fun z => some (Obj.cells z 200)) (Array.ext' ?_)
    show List.take (1 + off) (fmV f) ++ ((arr l).toList ++ List.drop (1 + off + l.length) (fmV f)) = _
    rw [← List.append_assoc]
    exact over_row _ f.l (fmT f) off l hf.len hfit
end
end Go.Proofs.YthajipigppndgaaGreat

namespace Go.Proofs.YthajipigppndgaaGreat
open Go.RowKit Go.Maps
open Go.WideElems (Fit rd rg rd_key rg_of)

/-- How a frame's pointer reads, as an element of a map: nil, or the frame's block. -/
def rdPt (v : Value) : Option (DataW (Option Nat) × List MemPlace) :=
  match v with
  | .pointer none => some (.held none, [])
  | .pointer (some ⟨b, 0, none⟩) => some (.held (some b), [])
  | _ => none
def ptV (b : Option Nat) : Value := .pointer (b.map fun x => ⟨x, 0, none⟩)
theorem rdPt_mk (b : Option Nat) : rdPt (ptV b) = some (.held b, []) := by cases b <;> rfl
theorem rdPt_inv {v : Value} {z : DataW (Option Nat) × List MemPlace} (h : rdPt v = some z) : ∃ b, v = ptV b ∧ z = (.held b, []) := by
  unfold rdPt at h
  split at h
  · exact ⟨none, rfl, (Option.some.inj h).symm⟩
  · rename_i b
    exact ⟨some b, rfl, (Option.some.inj h).symm⟩
  · cases h
abbrev PTab := Int → Option Nat
def PTab.put (S : PTab) (k : Int) (b : Nat) : PTab := fun j => if j = k then some b else S j
def PTab.del (S : PTab) (k : Int) : PTab := fun j => if j = k then none else S j
structure PSays (D : DataW (Option Nat)) (S : PTab) : Prop where
  has : ∀ k, Maps.has D (.int .i64 k) = (S k).isSome
  at' : ∀ k b, S k = some b → ∀ z, D.atKey (.int .i64 k) z = .held (some b)
  key : ∀ k b, S k = some b → 0 ≤ k ∧ k < 65536
theorem PSays.none : PSays (.map []) (fun _ => none) := ⟨fun _ => rfl, (fun _ _ h => nomatch h), (fun _ _ h => nomatch h)⟩
theorem PSays.put {D : DataW (Option Nat)} {S : PTab} (h : PSays D S) (hD : IsMap D) {k : Int} {b : Nat} (h0 : 0 ≤ k) (h1 : k < 65536) : PSays (D.put (.int .i64 k) (.held (some b))) (S.put k b) := by
  have hk : WideAt.IsKeyLit (.int .i64 k) := trivial
  refine ⟨fun j => ?_, fun j m hj z => ?_, fun j m hj => ?_⟩
  · by_cases e : j = k
    · subst e; rw [has_put_same hD hk]; simp [PTab.put]
    · rw [has_put_other (by simpa using e), h.has]; simp [PTab.put, e]
  · by_cases e : j = k
    · subst e; rw [atKey_put_same hD hk]; simp [PTab.put] at hj; rw [hj]
    · simp [PTab.put, e] at hj; rw [atKey_put_other (by simpa using e)]; exact h.at' j m hj z
  · by_cases e : j = k
    · subst e; exact ⟨h0, h1⟩
    · simp [PTab.put, e] at hj; exact h.key j m hj
theorem PSays.del {D : DataW (Option Nat)} {S : PTab} (h : PSays D S) {k : Int} : PSays (D.del (.int .i64 k)) (S.del k) := by
  have hk : WideAt.IsKeyLit (.int .i64 k) := trivial
  refine ⟨fun j => ?_, fun j m hj z => ?_, fun j m hj => ?_⟩
  · by_cases e : j = k
    · subst e; rw [has_del_same]; simp [PTab.del]
    · rw [has_del_other (by simpa using e), h.has]; simp [PTab.del, e]
  · by_cases e : j = k
    · subst e; simp [PTab.del] at hj
    · simp [PTab.del, e] at hj; rw [atKey_del_other (by simpa using e)]; exact h.at' j m hj z
  · by_cases e : j = k
    · subst e; simp [PTab.del] at hj
    · simp [PTab.del, e] at hj; exact h.key j m hj
theorem PSays.atKey {D : DataW (Option Nat)} {S : PTab} (h : PSays D S) (k : Int) : D.atKey (.int .i64 k) (.held Option.none) = .held (S k) := by
  cases e : S k with
  | none => exact atKey_of_not_has (by rw [h.has, e]; rfl) _
  | some l => exact h.at' k l e _
def pMap (w : World) (b : Nat) (S : PTab) : Prop := ∃ D, w.ownsMap Tryz.prog 3 rdPt b 65536 D ∧ PSays D S
theorem powns_small {w : World} {b n : Nat} {D : DataW (Option Nat)} {S : PTab} (h : w.ownsMap Tryz.prog 3 rdPt b n D) (hs : PSays D S) : w.ownsMap Tryz.prog 3 rdPt b 65536 D := by
  obtain ⟨D', hti, hpw⟩ := h.tidy Dv.law3
  obtain ⟨es, clock, hb, F, hn, hD⟩ := h
  refine ⟨es, clock, hb, F, ?_, hD⟩
  have hlen : es.size = D'.length := by
    have e1 : D' = ((es.toList.map (rg Tryz.prog 3 rdPt)).foldr DataW.insert []) := by
      rw [hti] at hD; exact DataW.map.inj hD
    rw [e1, length_read]
  rw [hlen]
  have hkeys : ∀ p ∈ D', ∃ x : Int, p.1 = .int .i64 x ∧ 0 ≤ x ∧ x < 65536 := by
    intro p hp
    have e1 : D' = ((es.toList.map (rg Tryz.prog 3 rdPt)).foldr DataW.insert []) := by
      rw [hti] at hD; exact DataW.map.inj hD
    have hp' : p ∈ es.toList.map (rg Tryz.prog 3 rdPt) := (WideShapes.sorted_perm _).mem_iff.1 (e1 ▸ hp)
    obtain ⟨x, hx, rfl⟩ := List.mem_map.1 hp'
    obtain ⟨y, hy⟩ := F.reads x hx
    have hk := rd_key hy
    obtain ⟨n, _, hkn, _⟩ := Maps.keyOf_int_inv Tryz.underlying3 hk
    have hrg : rg Tryz.prog 3 rdPt x = y := rg_of hy
    refine ⟨n, by rw [hrg]; exact hkn, ?_⟩
    have hhas : Maps.has D (.int .i64 n) = true := by
      rw [hti, has_eq, List.any_eq_true]
      exact ⟨_, hp, by rw [hrg, hkn]; simp [Lit.sameKey]⟩
    rw [hs.has] at hhas
    obtain ⟨l, hl⟩ := Option.isSome_iff_exists.1 hhas
    exact hs.key n l hl
  have hnum : ∀ p ∈ D', ∀ q ∈ D', p.1 ≠ q.1 → (match p.1 with | .int _ x => x | _ => 0) ≠ (match q.1 with | .int _ x => x | _ => (0 : Int)) := by
    intro p hp q hq hne
    obtain ⟨x, ex, _⟩ := hkeys p hp
    obtain ⟨y, ey, _⟩ := hkeys q hq
    rw [ex, ey] at hne ⊢
    simpa using hne
  have := Dv.nodup_le 65536 (D'.map fun p => match p.1 with | .int _ x => x | _ => 0) (by
    rw [List.Nodup, List.pairwise_map]
    exact hpw.imp_of_mem (fun hp hq hne => hnum _ hp _ hq hne)) (by
    intro x hx
    obtain ⟨p, hp, rfl⟩ := List.mem_map.1 hx
    obtain ⟨y, ey, h1, h2⟩ := hkeys p hp
    rw [ey]
    exact ⟨h1, by simpa using h2⟩)
  simpa using this
theorem pMap.lt {w : World} {b : Nat} {S : PTab} (h : pMap w b S) : b < w.heap.size := by obtain ⟨D, h, _⟩ := h; exact h.lt
theorem pMap.block {w w' : World} {b : Nat} {S : PTab} (h : pMap w b S) (e : w'.heap[b]? = w.heap[b]?) : pMap w' b S := by
  obtain ⟨D, ⟨es, clock, hb, r⟩, hs⟩ := h
  exact ⟨D, ⟨es, clock, e.trans hb, r⟩, hs⟩
theorem pMap.kept {w w' : World} {b : Nat} {S : PTab} {L : List Nat} (h : pMap w b S) (k : Fr L w w') (hb : b ∉ L) : pMap w' b S := h.block (k.block b h.lt hb)
theorem pMap.made (w : World) : pMap (w.alloc (.map #[] 0)) w.heap.size (fun _ => none) := ⟨_, (World.ownsMap_made w Tryz.prog 3 rdPt).mono (by omega), PSays.none⟩
theorem pMap.notcells {w : World} {b : Nat} {S : PTab} (h : pMap w b S) : ∀ cur t, w.heap[b]? ≠ some (.cells cur t) := by
  intro cur t e
  obtain ⟨D, ⟨es, clock, hb, r⟩, hs⟩ := h
  rw [e] at hb
  cases hb
theorem pzero (w : World) : (zeroValue 195).run Tryz.prog w = .ok (ptV none) w := by kernel_rfl
section
variable {ops : Array Oper} {rest : List Oper} {o : Oper} {a : Act} {w : World} {Q : Exit → Act → World → Prop}
theorem wp_pLook (hgd : o.guard = none) (m x : Operand) (ho : o.op = Op.lookup 138 m x true) (b : Nat) (S : PTab) (k : Int) (hk : (Lit.int .i64 k).wf = true) (hm : a.eval m = .map (some b)) (hx : a.eval x = .int .i64 k) (ht : pMap w b S)
    (h : wpList Tryz.prog ops Q rest (a.put o.dst (.tuple #[ptV (S k), .bool (S k).isSome])) w) : wpList Tryz.prog ops Q (o :: rest) a w := by
  obtain ⟨D, hown, hs⟩ := ht
  refine wpList_lookup_own_ok w hgd m x 138 ho 3 195 Dv.law3 Tryz.underlying138 rdPt (pzero w) (.held none) [] (rdPt_mk none) b 65536 D hm hown _ _ hx (keyOf_int_mk Tryz.underlying3 hk) ?_
  intro v ps hv
  obtain ⟨l, rfl, hz⟩ := rdPt_inv hv
  rw [hs.atKey] at hz
  simp only [Prod.mk.injEq, DataW.held.injEq] at hz
  rw [← hz.1, hs.has]
  exact h
theorem wp_pPut (hgd : o.guard = none) (m x v : Operand) (ho : o.op = Op.mapUpdate 138 m x v) (b : Nat) (S : PTab) (k : Int) (f : Nat) (h0 : 0 ≤ k) (h1 : k < 65536) (hm : a.eval m = .map (some b)) (hx : a.eval x = .int .i64 k) (hv : a.eval v = .pointer (some ⟨f, 0, none⟩)) (ht : pMap w b S)
    (h : ∀ w', pMap w' b (S.put k f) → Fr [b] w w' → wpList Tryz.prog ops Q rest (a.put o.dst undef) w') : wpList Tryz.prog ops Q (o :: rest) a w := by
  obtain ⟨D, hown, hs⟩ := ht
  have hk : (Lit.int .i64 k).wf = true := WalkArith.wf_i64 (by omega)
  refine wpList_mapUpdate_in w hgd m x v 138 ho 3 195 Dv.law3 Tryz.underlying138 _ b 65536 D hm hown (by unfold maxLen; omega) _ _ _ hx hv (keyOf_int_mk Tryz.underlying3 hk) _ [] (rdPt_mk (some f)) ?_
  intro w1 hown1 hturn1
  have hs1 := hs.put hown.isMap (b := f) h0 h1
  exact h w1 ⟨_, powns_small hown1 hs1, hs1⟩ ((Fr.refl _ _).grown hturn1.grown (fun j e _ => by simp at e; simp [e]))
theorem run_pDel {b : Nat} {S : PTab} (ht : pMap w b S) {k : Int} (hk : (Lit.int .i64 k).wf = true) (ty : TypeId) :
    ∃ w', (Builtin.delete_ #[138, 3] ty #[.map (some b), .int .i64 k]).run Tryz.prog w = .ok (.tuple #[]) w' ∧ pMap w' b (S.del k) ∧ Fr [b] w w' := by
  obtain ⟨D, hown, hs⟩ := ht
  obtain ⟨w', hrun, hown', hturn⟩ := hown.drop Dv.law3 Tryz.underlying138 (keyOf_int_mk Tryz.underlying3 hk) ty
  exact ⟨w', hrun, ⟨_, hown', hs.del⟩, (Fr.refl _ _).grown hturn.grown (fun j e _ => by simp at e; simp [e])⟩
/-- The same as a step of a region that draws its order. -/
theorem step_pDel {K : Act → World → Prop} {E : Prop} (hgd : o.guard = none) (m x : Operand) (ho : o.op = Op.call { callee := Callee.builtin Builtin.delete, args := #[m, x], argTypes := #[138, 3] }) (b : Nat) (S : PTab) (k : Int) (hk : (Lit.int .i64 k).wf = true) (hm : a.eval m = .map (some b)) (hx : a.eval x = .int .i64 k) (ht : pMap w b S)
    (h : ∀ w', pMap w' b (S.del k) → Fr [b] w w' → K (a.put o.dst (.tuple #[])) w') :
    if Region.wanted o (yielded ops a.tmps) = true then Oper.wp Tryz.prog o a w K Q else E := by
  have hw : Region.wanted o (yielded ops a.tmps) = true := by simp [Region.wanted, hgd]
  rw [if_pos hw]
  obtain ⟨w', hrun, r1, r2⟩ := run_pDel ht hk o.type
  unfold Oper.wp
  simp [execOp, ho, resolve, invoke, builtin, hm, hx, hrun, Result.andThen]
  exact h w' r1 r2
end
end Go.Proofs.YthajipigppndgaaGreat

