/-
  The document's own answer: Go.
-/
import Derived.Test.YtdfgmdddnehocaaDoorXRefG
namespace Go.Proofs.YtdfgmdddnehocaaDoor
open Go.RowKit Go.Maps Go.Lib

theorem belowTo_step (t : List Nd) (k b : Nat) : belowTo t k (b + 1) = belowTo t k b ++ (if knd t b ≠ 3 ∧ k < b ∧ belowB t b k = true then [b] else []) := by
  unfold belowTo
  rw [List.range_succ, List.filter_append]
  congr 1
  by_cases h1 : knd t b = 3 <;> by_cases h2 : k < b <;> cases h3 : belowB t b k <;> simp [h1, h2, h3]
theorem behindTo_step (t : List Nd) (k b : Nat) : behindTo t k (b + 1) = behindTo t k b ++ (if knd t b ≠ 3 ∧ k < b ∧ belowB t b k = false then [b] else []) := by
  unfold behindTo
  rw [List.range_succ, List.filter_append]
  congr 1
  by_cases h1 : knd t b = 3 <;> by_cases h2 : k < b <;> cases h3 : belowB t b k <;> simp [h1, h2, h3]
theorem aheadTo_step (t : List Nd) (k b : Nat) : aheadTo t k (b + 1) = aheadTo t k b ++ (if knd t b ≠ 3 ∧ b < k ∧ belowB t k b = false then [b] else []) := by
  unfold aheadTo
  rw [List.range_succ, List.filter_append]
  congr 1
  by_cases h1 : knd t b = 3 <;> by_cases h2 : b < k <;> cases h3 : belowB t k b <;> simp [h1, h2, h3]
theorem afterTo_step (t : List Nd) (k b : Nat) : afterTo t k (b + 1) = afterTo t k b ++ (if (knd t b ≠ 3 ∧ k < b ∧ belowB t b k = false) ∧ sibB t k b = true then [b] else []) := by
  unfold afterTo
  rw [behindTo_step, List.filter_append]
  congr 1
  by_cases h1 : knd t b ≠ 3 ∧ k < b ∧ belowB t b k = false
  · rw [if_pos h1]
    cases h2 : sibB t k b <;> simp [h1, h2]
  · rw [if_neg h1, if_neg (fun x => h1 x.1)]
    rfl
theorem beforeTo_step (t : List Nd) (k b : Nat) : beforeTo t k (b + 1) = beforeTo t k b ++ (if (knd t b ≠ 3 ∧ b < k ∧ belowB t k b = false) ∧ sibB t k b = true then [b] else []) := by
  unfold beforeTo
  rw [aheadTo_step, List.filter_append]
  congr 1
  by_cases h1 : knd t b ≠ 3 ∧ b < k ∧ belowB t k b = false
  · rw [if_pos h1]
    cases h2 : sibB t k b <;> simp [h1, h2]
  · rw [if_neg h1, if_neg (fun x => h1 x.1)]
    rfl
theorem to_len (t : List Nd) (k b : Nat) : (belowTo t k b).length ≤ b ∧ (beforeTo t k b).length ≤ b ∧ (behindTo t k b).length ≤ b ∧ (aheadTo t k b).length ≤ b ∧ (afterTo t k b).length ≤ b := by
  have h1 : (belowTo t k b).length ≤ b := by unfold belowTo; refine Nat.le_trans (List.length_filter_le _ _) (by simp)
  have h2 : (behindTo t k b).length ≤ b := by unfold behindTo; refine Nat.le_trans (List.length_filter_le _ _) (by simp)
  have h3 : (aheadTo t k b).length ≤ b := by unfold aheadTo; refine Nat.le_trans (List.length_filter_le _ _) (by simp)
  exact ⟨h1, Nat.le_trans (List.length_filter_le _ _) h3, h2, h3, Nat.le_trans (List.length_filter_le _ _) h2⟩
abbrev six (t : List Nd) (k : Nat) (vu v1 v2 v3 v4 v5 : Value) (i : Nat) : List (Value × List Nat) := [(vu, anc t k), (v1, belowTo t k i), (v2, beforeTo t k i), (v3, behindTo t k i), (v4, aheadTo t k i), (v5, afterTo t k i)]
theorem six_each {w0 w : World} {t : List Nd} {k : Nat} {vu v1 v2 v3 v4 v5 : Value} {i : Nat} (h : Rws w0 w (six t k vu v1 v2 v3 v4 v5 i)) : Ints w0 w vu (anc t k) ∧ Ints w0 w v1 (belowTo t k i) ∧ Ints w0 w v2 (beforeTo t k i) ∧ Ints w0 w v3 (behindTo t k i) ∧ Ints w0 w v4 (aheadTo t k i) ∧ Ints w0 w v5 (afterTo t k i) :=
  ⟨h.each (vu, anc t k) (by simp [six]), h.each (v1, belowTo t k i) (by simp [six]), h.each (v2, beforeTo t k i) (by simp [six]), h.each (v3, behindTo t k i) (by simp [six]), h.each (v4, aheadTo t k i) (by simp [six]), h.each (v5, afterTo t k i) (by simp [six])⟩
/-- No row is longer. -/
theorem six_same {w0 w : World} {t : List Nd} {k : Nat} {vu v1 v2 v3 v4 v5 : Value} {i : Nat} (h : Rws w0 w (six t k vu v1 v2 v3 v4 v5 i)) (h1 : ¬ (knd t i ≠ 3 ∧ k < i)) (h2 : ¬ (knd t i ≠ 3 ∧ i < k ∧ belowB t k i = false)) : Rws w0 w (six t k vu v1 v2 v3 v4 v5 (i + 1)) := by
  unfold six at h ⊢
  rw [belowTo_step, beforeTo_step, behindTo_step, aheadTo_step, afterTo_step, if_neg (fun x => h1 ⟨x.1, x.2.1⟩), if_neg (fun x => h2 x.1), if_neg (fun x => h1 ⟨x.1, x.2.1⟩), if_neg h2, if_neg (fun x => h1 ⟨x.1.1, x.1.2.1⟩)]
  simp only [List.append_nil]
  exact h

theorem before_is {t : List Nd} (O : Ords t) {k : Nat} (hk : k < t.length) : beforeTo t k t.length = sibAhead t k := by
  unfold sibAhead
  by_cases h : knd t k = 3
  · rw [if_pos h]; exact before_attr h _
  · rw [if_neg h]; exact before_eq O hk h
theorem after_is {t : List Nd} (O : Ords t) {k : Nat} (hk : k < t.length) : afterTo t k t.length = sibBehind t k := by
  unfold sibBehind
  by_cases h : knd t k = 3
  · rw [if_pos h]; exact after_attr h _
  · rw [if_neg h]; exact after_eq O hk h
theorem ints_cap {w0 w : World} {ad : Option Addr} {n cap : Nat} {l : List Nat} (h : Ints w0 w (.slice ad n cap) l) (hn : l.length = n) : n ≤ cap := by
  rcases h.2 with ⟨e, h0⟩ | ⟨g, cap', cur, e, hb, hg, hnc, _⟩
  · omega
  · cases e
    omega
theorem ints_take {w0 w : World} {ad : Option Addr} {n cap : Nat} {l : List Nat} (h : Ints w0 w (.slice ad n cap) l) (hn : l.length = n) (m : Nat) (hm : (m = 0 ∧ n = 0) ∨ (m = 1 ∧ 1 ≤ n)) : Ints w0 w (.slice ad m cap) (l.take 1) := by
  rcases hm with ⟨rfl, rfl⟩ | ⟨rfl, h1⟩
  · have : l = [] := List.eq_nil_of_length_eq_zero hn
    subst this
    exact h
  · obtain ⟨_, h2⟩ := h
    have hlen : (l.take 1).length = 1 := by rw [List.length_take]; omega
    refine ⟨by simp, ?_⟩
    rcases h2 with ⟨e, h0⟩ | ⟨g, cap', cur, e, hb, hg, hnc, hmx, hcs, ht⟩
    · omega
    · cases e
      refine Or.inr ⟨g, cap, cur, by rw [hlen], hb, hg, by rw [hlen]; omega, hmx, hcs, ?_⟩
      rw [hlen, List.map_take, ← ht, List.take_take]
      congr 1
      omega
set_option linter.unusedSimpArgs false in
set_option maxHeartbeats 40000000 in
set_option maxRecDepth 100000 in
theorem refGo_at (w : World) (b off c : Nat) (t : List Nd) (hN : NodesIn w b off t) (hl : t.length ≤ 300) (G : Good t) (k : Nat) (hk : k < t.length) (ax : Nat) (hax : ax < 256)
    (cP : Calls Tryd.prog 41 #[.slice (some ⟨b, off, none⟩) t.length c, .int .i64 (k : Int)] w fun e w' => e = .returned (.bool true) ∧ Fr [] w w') :
    Calls Tryd.prog 17 #[.slice (some ⟨b, off, none⟩) t.length c, .int .i64 (k : Int), .int .u8 (ax : Int)] w fun e w' => (∃ v, e = .returned v ∧ Ints w w' v (goA t k ax)) ∧ Fr [] w w' := by
  have HN := Hid.mk hN
  have HG := Hid.mk G
  have CP := Hid.mk cP
  have hk' : (k : Int) < (t.length : Int) := by omega
  have hk0 : (0 : Int) ≤ (k : Int) := by omega
  have H0 : Hid (anc t k = ancI t (par t k)) := anc_eq (G k hk).1.2.1
  have hlen := anc_len t k
  have hp1 : par t k < (k : Int) := (G k hk).1.2.1
  obtain ⟨AN, hAN⟩ : ∃ A, anc t k = A := ⟨_, rfl⟩
  have HAN := Hid.mk hAN
  rw [hAN] at hlen H0
  obtain ⟨PK, hPK⟩ : ∃ P, par t k = P := ⟨_, rfl⟩
  have HPK := Hid.mk hPK
  rw [hPK] at H0 hp1
  obtain ⟨KK, hKK⟩ : ∃ K, knd t k = K := ⟨_, rfl⟩
  have HKK := Hid.mk hKK
  clear hN G cP hAN hPK hKK
  go_enter Tryd.func17, Tryd.ntmps17
  go_wp2_with (first
    | (go_at_call 41; refine CP.out.mono ?_; rintro e w1 ⟨rfl, f1⟩; obtain ⟨c0, c1, c2, c3⟩ := (HN.out.kept f1 (by simp)) k hk; rw [HPK.out] at c3; clear c0 c1 c2)
    | fail)
  have F1 := Hid.mk f1
  clear f1 c3 CP
  go_loopw [7, 13] (fun s7 s13 wr => ∃ (u : Int) (l : List Nat), s13 = .int .i64 u ∧ u < (k : Int) ∧ Hid (l ++ ancI t u = AN) ∧ Hid (Ints w wr s7 l) ∧ Hid (Fr [] w wr)) (fun _ s13 _ => (RowKit.intOf s13 + 1).toNat)
  case atStart => exact ⟨PK, [], rfl, hp1, H0.out.symm, Ints.nil _ _, F1⟩
  case round =>
    obtain ⟨u, l, rfl, hu, hL, hI, frh⟩ := hrel
    clear F1
    by_cases h0 : u < 0
    · have h0' : ¬ (0 : Int) ≤ u := by omega
      have e := hL.out
      rw [ancI_neg t u h0, List.append_nil] at e
      subst e
      obtain ⟨adu, capu, rfl, _⟩ := hI.out.shape
      obtain ⟨lu, hlu⟩ : ∃ lu, l.length = lu := ⟨_, rfl⟩
      have HLU := Hid.mk hlu
      rw [hlu] at hI hlen ⊢
      have hR0 : Rws w wr (six t k (.slice adu lu capu) (.slice none 0 0) (.slice none 0 0) (.slice none 0 0) (.slice none 0 0) (.slice none 0 0) 0) := by
        refine ⟨fun p hp => ?_, ?_⟩
        · unfold six at hp
          simp only [List.mem_cons, List.mem_nil_iff, or_false] at hp
          rcases hp with rfl | rfl | rfl | rfl | rfl | rfl
          · show Ints w wr _ (anc t k); rw [HAN.out]; exact hI.out
          all_goals exact Ints.nil _ _
        · unfold six
          have z : ∀ v : Value, Two v (.slice none 0 0) := fun v g _ e => by cases e
          simp [List.pairwise_cons, z]
      have HR0 := Hid.mk hR0
      clear hR0 hlu hI hL
      go_wp2
      go_loopw [8, 9, 10, 11, 12, 14] (fun s8 s9 s10 s11 s12 s14 wi => ∃ i : Nat, i ≤ t.length ∧ s14 = .int .i64 (i : Int) ∧ Hid (Rws w wi (six t k (.slice adu lu capu) s8 s9 s10 s11 s12 i)) ∧ Hid (Fr [] w wi)) (fun _ _ _ _ _ s14 _ => t.length - (RowKit.intOf s14).toNat)
      case atStart => exact ⟨0, Nat.zero_le _, rfl, HR0, frh⟩
      case round =>
        obtain ⟨i, hi, rfl, hR, hF⟩ := hrel
        clear HR0 frh
        have hi0 : (0 : Int) ≤ (i : Int) := by omega
        obtain ⟨hb1, hb2, hb3, hb4, hb5⟩ := to_len t k i
        obtain ⟨a8, q8, rfl, _⟩ := (six_each hR.out).2.1.shape
        obtain ⟨a9, q9, rfl, _⟩ := (six_each hR.out).2.2.1.shape
        obtain ⟨a10, q10, rfl, _⟩ := (six_each hR.out).2.2.2.1.shape
        obtain ⟨a11, q11, rfl, _⟩ := (six_each hR.out).2.2.2.2.1.shape
        obtain ⟨a12, q12, rfl, _⟩ := (six_each hR.out).2.2.2.2.2.shape
        obtain ⟨m8, hm8⟩ : ∃ m, (belowTo t k i).length = m := ⟨_, rfl⟩
        obtain ⟨m9, hm9⟩ : ∃ m, (beforeTo t k i).length = m := ⟨_, rfl⟩
        obtain ⟨m10, hm10⟩ : ∃ m, (behindTo t k i).length = m := ⟨_, rfl⟩
        obtain ⟨m11, hm11⟩ : ∃ m, (aheadTo t k i).length = m := ⟨_, rfl⟩
        obtain ⟨m12, hm12⟩ : ∃ m, (afterTo t k i).length = m := ⟨_, rfl⟩
        have M8 := Hid.mk hm8
        have M9 := Hid.mk hm9
        have M10 := Hid.mk hm10
        have M11 := Hid.mk hm11
        have M12 := Hid.mk hm12
        simp only [hm8, hm9, hm10, hm11, hm12] at hR hb1 hb2 hb3 hb4 hb5 ⊢
        clear hm8 hm9 hm10 hm11 hm12
        by_cases hil : i < t.length
        · have hil' : (i : Int) < (t.length : Int) := by omega
          obtain ⟨c0, c1, c2, c3⟩ := (HN.out.kept hF.out (by simp)) i hil
          obtain ⟨d0, d1, d2, d3⟩ := (HN.out.kept hF.out (by simp)) k hk
          rw [HPK.out] at d3
          rw [HKK.out] at d0
          clear c1 c2 d1 d2
          by_cases h3 : knd t i = 3
          · have HS := Hid.mk (six_same hR.out (fun x => x.1 h3) (fun x => x.1 h3))
            rw [h3] at c0
            clear h3
            go_wp2
            exact ⟨⟨i + 1, by omega, by go_num, HS, hF⟩, by simp [RowKit.intOf]; omega⟩
          · have h3b : ((((knd t i : Nat)) : Int) == 3) = false := by rw [beq_eq_false_iff_ne]; omega
            have H3 := Hid.mk h3
            generalize hKi : knd t i = KI at c0 h3b
            clear h3 hKi
            rcases Nat.lt_trichotomy i k with hik | hik | hik
            · have hik1 : (i : Int) < (k : Int) := by omega
              have hik2 : ¬ (k : Int) < (i : Int) := by omega
              have hik3 : decide ((i : Int) < (k : Int)) = true := decide_eq_true hik1
              have hik4 : decide ((k : Int) < (i : Int)) = false := decide_eq_false hik2
              have hik5 : decide (i < k) = true := decide_eq_true hik
              have hik6 : decide (k < i) = false := decide_eq_false (by omega)
              have hbi : ((i : Int) == (k : Int)) = false := by rw [beq_eq_false_iff_ne]; omega
              have cB := Hid.mk (fun w' (f : Fr [] w w') => refBelow_any w' b off c t (HN.out.kept f (by simp)) HG.out.ords k i hk)
              have hsb : sibB t k i = (decide (par t i = PK) && decide (KK ≠ 3)) := by unfold sibB; rw [HPK.out, HKK.out]
              generalize hpi : par t i = PI at c3 hsb
              clear hpi
              cases hB : belowB t k i with
              | true =>
                have HB := Hid.mk hB
                have HS := Hid.mk (six_same hR.out (fun x => by omega) (fun x => by rw [hB] at x; cases x.2.2))
                clear hB
                by_cases hp : PI = PK
                · have hpb : (PI == PK) = true := by rw [beq_iff_eq]; exact hp
                  by_cases hk3 : KK = 3
                  · have hkb : ((KK : Int) != 3) = false := by rw [hk3]; rfl
                    have HSB : Hid (sibB t k i = false) := by show sibB t k i = false; rw [hsb, hk3]; simp
                    clear hp hk3 hsb
                    as_aux_lemma =>
                    go_wp2
                    go_quiet (fail)
                    obtain ⟨wq, hwq⟩ : ∃ wq, wr.drewN nq = wq := ⟨_, rfl⟩
                    have fq : Fr [] wr wq := by rw [← hwq]; exact ⟨rfl, rfl, rfl, Nat.le_refl _, fun _ _ _ => rfl⟩
                    rw [hwq]
                    have RQ := Hid.mk (hR.out.kept fq)
                    have FQ := Hid.mk (hF.out.trans fq)
                    clear hwq c0 c3 d0 d3
                    go_wp2_with (first
                      | (go_at_call 42; refine (cB.out _ FQ.out).mono ?_; rw [HB.out]; rintro e wz ⟨rfl, hwz⟩; have hwz2 := hwz.symm; subst hwz2; clear hwz)
                      | go_in)
                    exact ⟨⟨i + 1, by omega, by go_num, HS.out.kept fq, FQ⟩, by simp [RowKit.intOf]; omega⟩
                  · have hkb : ((KK : Int) != 3) = true := by rw [bne_iff_ne]; omega
                    have HSB : Hid (sibB t k i = true) := by show sibB t k i = true; rw [hsb]; simp [hp, hk3]
                    clear hp hk3 hsb
                    as_aux_lemma =>
                    go_wp2
                    go_quiet (fail)
                    obtain ⟨wq, hwq⟩ : ∃ wq, wr.drewN nq = wq := ⟨_, rfl⟩
                    have fq : Fr [] wr wq := by rw [← hwq]; exact ⟨rfl, rfl, rfl, Nat.le_refl _, fun _ _ _ => rfl⟩
                    rw [hwq]
                    have RQ := Hid.mk (hR.out.kept fq)
                    have FQ := Hid.mk (hF.out.trans fq)
                    clear hwq c0 c3 d0 d3
                    go_wp2_with (first
                      | (go_at_call 42; refine (cB.out _ FQ.out).mono ?_; rw [HB.out]; rintro e wz ⟨rfl, hwz⟩; have hwz2 := hwz.symm; subst hwz2; clear hwz)
                      | go_in)
                    exact ⟨⟨i + 1, by omega, by go_num, HS.out.kept fq, FQ⟩, by simp [RowKit.intOf]; omega⟩
                · have hpb : (PI == PK) = false := by rw [beq_eq_false_iff_ne]; exact hp
                  have HSB : Hid (sibB t k i = false) := by show sibB t k i = false; rw [hsb]; simp [hp]
                  clear hp hsb
                  as_aux_lemma =>
                  go_wp2
                  go_quiet (fail)
                  obtain ⟨wq, hwq⟩ : ∃ wq, wr.drewN nq = wq := ⟨_, rfl⟩
                  have fq : Fr [] wr wq := by rw [← hwq]; exact ⟨rfl, rfl, rfl, Nat.le_refl _, fun _ _ _ => rfl⟩
                  rw [hwq]
                  have RQ := Hid.mk (hR.out.kept fq)
                  have FQ := Hid.mk (hF.out.trans fq)
                  clear hwq c0 c3 d0 d3
                  go_wp2_with (first
                    | (go_at_call 42; refine (cB.out _ FQ.out).mono ?_; rw [HB.out]; rintro e wz ⟨rfl, hwz⟩; have hwz2 := hwz.symm; subst hwz2; clear hwz)
                    | go_in)
                  exact ⟨⟨i + 1, by omega, by go_num, HS.out.kept fq, FQ⟩, by simp [RowKit.intOf]; omega⟩
              | false =>
                have HB := Hid.mk hB
                clear hB
                by_cases hp : PI = PK
                · have hpb : (PI == PK) = true := by rw [beq_iff_eq]; exact hp
                  by_cases hk3 : KK = 3
                  · have hkb : ((KK : Int) != 3) = false := by rw [hk3]; rfl
                    have HSB : Hid (sibB t k i = false) := by show sibB t k i = false; rw [hsb, hk3]; simp
                    clear hp hk3 hsb
                    as_aux_lemma =>
                    go_wp2
                    go_quiet (fail)
                    obtain ⟨wq, hwq⟩ : ∃ wq, wr.drewN nq = wq := ⟨_, rfl⟩
                    have fq : Fr [] wr wq := by rw [← hwq]; exact ⟨rfl, rfl, rfl, Nat.le_refl _, fun _ _ _ => rfl⟩
                    rw [hwq]
                    have RQ := Hid.mk (hR.out.kept fq)
                    have FQ := Hid.mk (hF.out.trans fq)
                    clear hwq c0 c3 d0 d3
                    go_wp2_with (first
                      | (refine wp_appIL rfl _ _ rfl w (.slice a11 m11 q11) (aheadTo t k i) rfl ((RQ.out.each (.slice a11 m11 q11, aheadTo t k i) (by simp)).kept0 ((Fr.refl _ _).alloc _)) (FQ.out.alloc _) wq.heap.size 1 i rfl (cell_new1 _ _ _) (by rw [M11.out]; omega) ?_; rw [M11.out]; intro g1 cp1 w1 h1 f1 fr1 at1; have R1 := Hid.mk (Rws.app (xs := [(.slice adu lu capu, anc t k), (.slice a8 m8 q8, belowTo t k i), (.slice a9 m9 q9, beforeTo t k i), (.slice a10 m10 q10, behindTo t k i)]) (ys := [(.slice a12 m12 q12, afterTo t k i)]) RQ.out h1 f1 at1); clear h1 f1 at1)
                      | (go_at_call 42; refine (cB.out _ FQ.out).mono ?_; rw [HB.out]; rintro e wz ⟨rfl, hwz⟩; have hwz2 := hwz.symm; subst hwz2; clear hwz)
                      | go_in)
                    refine ⟨⟨i + 1, by omega, by go_num, ?_, fr1⟩, by simp [RowKit.intOf]; omega⟩
                    show Rws _ _ (six t k _ _ _ _ _ _ (i + 1))
                    unfold six
                    rw [belowTo_step, beforeTo_step, behindTo_step, aheadTo_step, afterTo_step, if_neg (fun x => absurd x.2.1 (by omega)), if_neg (fun x => by have := x.2; rw [HSB.out] at this; cases this), if_neg (fun x => absurd x.2.1 (by omega)), if_pos ⟨H3.out, hik, HB.out⟩, if_neg (fun x => absurd x.1.2.1 (by omega))]
                    simp only [List.append_nil]
                    exact R1.out
                  · have hkb : ((KK : Int) != 3) = true := by rw [bne_iff_ne]; omega
                    have HSB : Hid (sibB t k i = true) := by show sibB t k i = true; rw [hsb]; simp [hp, hk3]
                    clear hp hk3 hsb
                    as_aux_lemma =>
                    go_wp2
                    go_quiet (fail)
                    obtain ⟨wq, hwq⟩ : ∃ wq, wr.drewN nq = wq := ⟨_, rfl⟩
                    have fq : Fr [] wr wq := by rw [← hwq]; exact ⟨rfl, rfl, rfl, Nat.le_refl _, fun _ _ _ => rfl⟩
                    rw [hwq]
                    have RQ := Hid.mk (hR.out.kept fq)
                    have FQ := Hid.mk (hF.out.trans fq)
                    clear hwq c0 c3 d0 d3
                    go_wp2_with (first
                      | (refine wp_appIL rfl _ _ rfl w (.slice a9 m9 q9) (beforeTo t k i) rfl ((R1.out.each (.slice a9 m9 q9, beforeTo t k i) (by simp)).kept0 ((Fr.refl _ _).alloc _)) (fr1.alloc _) w1.heap.size 1 i rfl (cell_new1 _ _ _) (by rw [M9.out]; omega) ?_; rw [M9.out]; intro g2 cp2 w2 h2 f2 fr2 at2; have R2 := Hid.mk (Rws.app (xs := [(.slice adu lu capu, anc t k), (.slice a8 m8 q8, belowTo t k i)]) (ys := [(.slice a10 m10 q10, behindTo t k i), (.slice (some ⟨g1, 0, none⟩) (m11 + 1) cp1, aheadTo t k i ++ [i]), (.slice a12 m12 q12, afterTo t k i)]) R1.out h2 f2 at2); clear h2 f2 at2)
                      | (refine wp_appIL rfl _ _ rfl w (.slice a11 m11 q11) (aheadTo t k i) rfl ((RQ.out.each (.slice a11 m11 q11, aheadTo t k i) (by simp)).kept0 ((Fr.refl _ _).alloc _)) (FQ.out.alloc _) wq.heap.size 1 i rfl (cell_new1 _ _ _) (by rw [M11.out]; omega) ?_; rw [M11.out]; intro g1 cp1 w1 h1 f1 fr1 at1; have R1 := Hid.mk (Rws.app (xs := [(.slice adu lu capu, anc t k), (.slice a8 m8 q8, belowTo t k i), (.slice a9 m9 q9, beforeTo t k i), (.slice a10 m10 q10, behindTo t k i)]) (ys := [(.slice a12 m12 q12, afterTo t k i)]) RQ.out h1 f1 at1); clear h1 f1 at1)
                      | (go_at_call 42; refine (cB.out _ FQ.out).mono ?_; rw [HB.out]; rintro e wz ⟨rfl, hwz⟩; have hwz2 := hwz.symm; subst hwz2; clear hwz)
                      | go_in)
                    refine ⟨⟨i + 1, by omega, by go_num, ?_, fr2⟩, by simp [RowKit.intOf]; omega⟩
                    show Rws _ _ (six t k _ _ _ _ _ _ (i + 1))
                    unfold six
                    rw [belowTo_step, beforeTo_step, behindTo_step, aheadTo_step, afterTo_step, if_neg (fun x => absurd x.2.1 (by omega)), if_pos ⟨⟨H3.out, hik, HB.out⟩, HSB.out⟩, if_neg (fun x => absurd x.2.1 (by omega)), if_pos ⟨H3.out, hik, HB.out⟩, if_neg (fun x => absurd x.1.2.1 (by omega))]
                    simp only [List.append_nil]
                    exact R2.out
                · have hpb : (PI == PK) = false := by rw [beq_eq_false_iff_ne]; exact hp
                  have HSB : Hid (sibB t k i = false) := by show sibB t k i = false; rw [hsb]; simp [hp]
                  clear hp hsb
                  as_aux_lemma =>
                  go_wp2
                  go_quiet (fail)
                  obtain ⟨wq, hwq⟩ : ∃ wq, wr.drewN nq = wq := ⟨_, rfl⟩
                  have fq : Fr [] wr wq := by rw [← hwq]; exact ⟨rfl, rfl, rfl, Nat.le_refl _, fun _ _ _ => rfl⟩
                  rw [hwq]
                  have RQ := Hid.mk (hR.out.kept fq)
                  have FQ := Hid.mk (hF.out.trans fq)
                  clear hwq c0 c3 d0 d3
                  go_wp2_with (first
                    | (refine wp_appIL rfl _ _ rfl w (.slice a11 m11 q11) (aheadTo t k i) rfl ((RQ.out.each (.slice a11 m11 q11, aheadTo t k i) (by simp)).kept0 ((Fr.refl _ _).alloc _)) (FQ.out.alloc _) wq.heap.size 1 i rfl (cell_new1 _ _ _) (by rw [M11.out]; omega) ?_; rw [M11.out]; intro g1 cp1 w1 h1 f1 fr1 at1; have R1 := Hid.mk (Rws.app (xs := [(.slice adu lu capu, anc t k), (.slice a8 m8 q8, belowTo t k i), (.slice a9 m9 q9, beforeTo t k i), (.slice a10 m10 q10, behindTo t k i)]) (ys := [(.slice a12 m12 q12, afterTo t k i)]) RQ.out h1 f1 at1); clear h1 f1 at1)
                    | (go_at_call 42; refine (cB.out _ FQ.out).mono ?_; rw [HB.out]; rintro e wz ⟨rfl, hwz⟩; have hwz2 := hwz.symm; subst hwz2; clear hwz)
                    | go_in)
                  refine ⟨⟨i + 1, by omega, by go_num, ?_, fr1⟩, by simp [RowKit.intOf]; omega⟩
                  show Rws _ _ (six t k _ _ _ _ _ _ (i + 1))
                  unfold six
                  rw [belowTo_step, beforeTo_step, behindTo_step, aheadTo_step, afterTo_step, if_neg (fun x => absurd x.2.1 (by omega)), if_neg (fun x => by have := x.2; rw [HSB.out] at this; cases this), if_neg (fun x => absurd x.2.1 (by omega)), if_pos ⟨H3.out, hik, HB.out⟩, if_neg (fun x => absurd x.1.2.1 (by omega))]
                  simp only [List.append_nil]
                  exact R1.out
            · have HS := Hid.mk (six_same hR.out (fun x => by omega) (fun x => by omega))
              have hb : ((i : Int) == (k : Int)) = true := by rw [beq_iff_eq]; omega
              clear hik
              go_wp2
              exact ⟨⟨i + 1, by omega, by go_num, HS, hF⟩, by simp [RowKit.intOf]; omega⟩
            · have hik1 : (k : Int) < (i : Int) := by omega
              have hik2 : ¬ (i : Int) < (k : Int) := by omega
              have hik3 : decide ((k : Int) < (i : Int)) = true := decide_eq_true hik1
              have hik4 : decide ((i : Int) < (k : Int)) = false := decide_eq_false hik2
              have hik5 : decide (k < i) = true := decide_eq_true hik
              have hik6 : decide (i < k) = false := decide_eq_false (by omega)
              have hbi : ((i : Int) == (k : Int)) = false := by rw [beq_eq_false_iff_ne]; omega
              have cB := Hid.mk (fun w' (f : Fr [] w w') => refBelow_any w' b off c t (HN.out.kept f (by simp)) HG.out.ords i k hil)
              have hsb : sibB t k i = (decide (par t i = PK) && decide (KK ≠ 3)) := by unfold sibB; rw [HPK.out, HKK.out]
              generalize hpi : par t i = PI at c3 hsb
              clear hpi
              cases hB : belowB t i k with
              | true =>
                have HB := Hid.mk hB
                clear hB
                by_cases hp : PI = PK
                · have hpb : (PI == PK) = true := by rw [beq_iff_eq]; exact hp
                  by_cases hk3 : KK = 3
                  · have hkb : ((KK : Int) != 3) = false := by rw [hk3]; rfl
                    have HSB : Hid (sibB t k i = false) := by show sibB t k i = false; rw [hsb, hk3]; simp
                    clear hp hk3 hsb
                    as_aux_lemma =>
                    go_wp2
                    go_quiet (fail)
                    obtain ⟨wq, hwq⟩ : ∃ wq, wr.drewN nq = wq := ⟨_, rfl⟩
                    have fq : Fr [] wr wq := by rw [← hwq]; exact ⟨rfl, rfl, rfl, Nat.le_refl _, fun _ _ _ => rfl⟩
                    rw [hwq]
                    have RQ := Hid.mk (hR.out.kept fq)
                    have FQ := Hid.mk (hF.out.trans fq)
                    clear hwq c0 c3 d0 d3
                    go_wp2_with (first
                      | (refine wp_appIL rfl _ _ rfl w (.slice a8 m8 q8) (belowTo t k i) rfl ((RQ.out.each (.slice a8 m8 q8, belowTo t k i) (by simp)).kept0 ((Fr.refl _ _).alloc _)) (FQ.out.alloc _) wq.heap.size 1 i rfl (cell_new1 _ _ _) (by rw [M8.out]; omega) ?_; rw [M8.out]; intro g1 cp1 w1 h1 f1 fr1 at1; have R1 := Hid.mk (Rws.app (xs := [(.slice adu lu capu, anc t k)]) (ys := [(.slice a9 m9 q9, beforeTo t k i), (.slice a10 m10 q10, behindTo t k i), (.slice a11 m11 q11, aheadTo t k i), (.slice a12 m12 q12, afterTo t k i)]) RQ.out h1 f1 at1); clear h1 f1 at1)
                      | (go_at_call 42; refine (cB.out _ FQ.out).mono ?_; rw [HB.out]; rintro e wz ⟨rfl, hwz⟩; have hwz2 := hwz.symm; subst hwz2; clear hwz)
                      | (go_at_call 42; refine (cB.out _ fr1).mono ?_; rw [HB.out]; rintro e wz ⟨rfl, hwz⟩; have hwz2 := hwz.symm; subst hwz2; clear hwz)
                      | go_in)
                    refine ⟨⟨i + 1, by omega, by go_num, ?_, fr1⟩, by simp [RowKit.intOf]; omega⟩
                    show Rws _ _ (six t k _ _ _ _ _ _ (i + 1))
                    unfold six
                    rw [belowTo_step, beforeTo_step, behindTo_step, aheadTo_step, afterTo_step, if_pos ⟨H3.out, hik, HB.out⟩, if_neg (fun x => absurd x.1.2.1 (by omega)), if_neg (fun x => by have := x.2.2; rw [HB.out] at this; cases this), if_neg (fun x => absurd x.2.1 (by omega)), if_neg (fun x => by have := x.1.2.2; rw [HB.out] at this; cases this)]
                    simp only [List.append_nil]
                    exact R1.out
                  · have hkb : ((KK : Int) != 3) = true := by rw [bne_iff_ne]; omega
                    have HSB : Hid (sibB t k i = true) := by show sibB t k i = true; rw [hsb]; simp [hp, hk3]
                    clear hp hk3 hsb
                    as_aux_lemma =>
                    go_wp2
                    go_quiet (fail)
                    obtain ⟨wq, hwq⟩ : ∃ wq, wr.drewN nq = wq := ⟨_, rfl⟩
                    have fq : Fr [] wr wq := by rw [← hwq]; exact ⟨rfl, rfl, rfl, Nat.le_refl _, fun _ _ _ => rfl⟩
                    rw [hwq]
                    have RQ := Hid.mk (hR.out.kept fq)
                    have FQ := Hid.mk (hF.out.trans fq)
                    clear hwq c0 c3 d0 d3
                    go_wp2_with (first
                      | (refine wp_appIL rfl _ _ rfl w (.slice a8 m8 q8) (belowTo t k i) rfl ((RQ.out.each (.slice a8 m8 q8, belowTo t k i) (by simp)).kept0 ((Fr.refl _ _).alloc _)) (FQ.out.alloc _) wq.heap.size 1 i rfl (cell_new1 _ _ _) (by rw [M8.out]; omega) ?_; rw [M8.out]; intro g1 cp1 w1 h1 f1 fr1 at1; have R1 := Hid.mk (Rws.app (xs := [(.slice adu lu capu, anc t k)]) (ys := [(.slice a9 m9 q9, beforeTo t k i), (.slice a10 m10 q10, behindTo t k i), (.slice a11 m11 q11, aheadTo t k i), (.slice a12 m12 q12, afterTo t k i)]) RQ.out h1 f1 at1); clear h1 f1 at1)
                      | (go_at_call 42; refine (cB.out _ FQ.out).mono ?_; rw [HB.out]; rintro e wz ⟨rfl, hwz⟩; have hwz2 := hwz.symm; subst hwz2; clear hwz)
                      | (go_at_call 42; refine (cB.out _ fr1).mono ?_; rw [HB.out]; rintro e wz ⟨rfl, hwz⟩; have hwz2 := hwz.symm; subst hwz2; clear hwz)
                      | go_in)
                    refine ⟨⟨i + 1, by omega, by go_num, ?_, fr1⟩, by simp [RowKit.intOf]; omega⟩
                    show Rws _ _ (six t k _ _ _ _ _ _ (i + 1))
                    unfold six
                    rw [belowTo_step, beforeTo_step, behindTo_step, aheadTo_step, afterTo_step, if_pos ⟨H3.out, hik, HB.out⟩, if_neg (fun x => absurd x.1.2.1 (by omega)), if_neg (fun x => by have := x.2.2; rw [HB.out] at this; cases this), if_neg (fun x => absurd x.2.1 (by omega)), if_neg (fun x => by have := x.1.2.2; rw [HB.out] at this; cases this)]
                    simp only [List.append_nil]
                    exact R1.out
                · have hpb : (PI == PK) = false := by rw [beq_eq_false_iff_ne]; exact hp
                  have HSB : Hid (sibB t k i = false) := by show sibB t k i = false; rw [hsb]; simp [hp]
                  clear hp hsb
                  as_aux_lemma =>
                  go_wp2
                  go_quiet (fail)
                  obtain ⟨wq, hwq⟩ : ∃ wq, wr.drewN nq = wq := ⟨_, rfl⟩
                  have fq : Fr [] wr wq := by rw [← hwq]; exact ⟨rfl, rfl, rfl, Nat.le_refl _, fun _ _ _ => rfl⟩
                  rw [hwq]
                  have RQ := Hid.mk (hR.out.kept fq)
                  have FQ := Hid.mk (hF.out.trans fq)
                  clear hwq c0 c3 d0 d3
                  go_wp2_with (first
                    | (refine wp_appIL rfl _ _ rfl w (.slice a8 m8 q8) (belowTo t k i) rfl ((RQ.out.each (.slice a8 m8 q8, belowTo t k i) (by simp)).kept0 ((Fr.refl _ _).alloc _)) (FQ.out.alloc _) wq.heap.size 1 i rfl (cell_new1 _ _ _) (by rw [M8.out]; omega) ?_; rw [M8.out]; intro g1 cp1 w1 h1 f1 fr1 at1; have R1 := Hid.mk (Rws.app (xs := [(.slice adu lu capu, anc t k)]) (ys := [(.slice a9 m9 q9, beforeTo t k i), (.slice a10 m10 q10, behindTo t k i), (.slice a11 m11 q11, aheadTo t k i), (.slice a12 m12 q12, afterTo t k i)]) RQ.out h1 f1 at1); clear h1 f1 at1)
                    | (go_at_call 42; refine (cB.out _ FQ.out).mono ?_; rw [HB.out]; rintro e wz ⟨rfl, hwz⟩; have hwz2 := hwz.symm; subst hwz2; clear hwz)
                    | (go_at_call 42; refine (cB.out _ fr1).mono ?_; rw [HB.out]; rintro e wz ⟨rfl, hwz⟩; have hwz2 := hwz.symm; subst hwz2; clear hwz)
                    | go_in)
                  refine ⟨⟨i + 1, by omega, by go_num, ?_, fr1⟩, by simp [RowKit.intOf]; omega⟩
                  show Rws _ _ (six t k _ _ _ _ _ _ (i + 1))
                  unfold six
                  rw [belowTo_step, beforeTo_step, behindTo_step, aheadTo_step, afterTo_step, if_pos ⟨H3.out, hik, HB.out⟩, if_neg (fun x => absurd x.1.2.1 (by omega)), if_neg (fun x => by have := x.2.2; rw [HB.out] at this; cases this), if_neg (fun x => absurd x.2.1 (by omega)), if_neg (fun x => by have := x.1.2.2; rw [HB.out] at this; cases this)]
                  simp only [List.append_nil]
                  exact R1.out
              | false =>
                have HB := Hid.mk hB
                clear hB
                by_cases hp : PI = PK
                · have hpb : (PI == PK) = true := by rw [beq_iff_eq]; exact hp
                  by_cases hk3 : KK = 3
                  · have hkb : ((KK : Int) != 3) = false := by rw [hk3]; rfl
                    have HSB : Hid (sibB t k i = false) := by show sibB t k i = false; rw [hsb, hk3]; simp
                    clear hp hk3 hsb
                    as_aux_lemma =>
                    go_wp2
                    go_quiet (fail)
                    obtain ⟨wq, hwq⟩ : ∃ wq, wr.drewN nq = wq := ⟨_, rfl⟩
                    have fq : Fr [] wr wq := by rw [← hwq]; exact ⟨rfl, rfl, rfl, Nat.le_refl _, fun _ _ _ => rfl⟩
                    rw [hwq]
                    have RQ := Hid.mk (hR.out.kept fq)
                    have FQ := Hid.mk (hF.out.trans fq)
                    clear hwq c0 c3 d0 d3
                    go_wp2_with (first
                      | (refine wp_appIL rfl _ _ rfl w (.slice a10 m10 q10) (behindTo t k i) rfl ((RQ.out.each (.slice a10 m10 q10, behindTo t k i) (by simp)).kept0 ((Fr.refl _ _).alloc _)) (FQ.out.alloc _) wq.heap.size 1 i rfl (cell_new1 _ _ _) (by rw [M10.out]; omega) ?_; rw [M10.out]; intro g1 cp1 w1 h1 f1 fr1 at1; have R1 := Hid.mk (Rws.app (xs := [(.slice adu lu capu, anc t k), (.slice a8 m8 q8, belowTo t k i), (.slice a9 m9 q9, beforeTo t k i)]) (ys := [(.slice a11 m11 q11, aheadTo t k i), (.slice a12 m12 q12, afterTo t k i)]) RQ.out h1 f1 at1); clear h1 f1 at1)
                      | (go_at_call 42; refine (cB.out _ FQ.out).mono ?_; rw [HB.out]; rintro e wz ⟨rfl, hwz⟩; have hwz2 := hwz.symm; subst hwz2; clear hwz)
                      | go_in)
                    refine ⟨⟨i + 1, by omega, by go_num, ?_, fr1⟩, by simp [RowKit.intOf]; omega⟩
                    show Rws _ _ (six t k _ _ _ _ _ _ (i + 1))
                    unfold six
                    rw [belowTo_step, beforeTo_step, behindTo_step, aheadTo_step, afterTo_step, if_neg (fun x => by have := x.2.2; rw [HB.out] at this; cases this), if_neg (fun x => absurd x.1.2.1 (by omega)), if_pos ⟨H3.out, hik, HB.out⟩, if_neg (fun x => absurd x.2.1 (by omega)), if_neg (fun x => by have := x.2; rw [HSB.out] at this; cases this)]
                    simp only [List.append_nil]
                    exact R1.out
                  · have hkb : ((KK : Int) != 3) = true := by rw [bne_iff_ne]; omega
                    have HSB : Hid (sibB t k i = true) := by show sibB t k i = true; rw [hsb]; simp [hp, hk3]
                    clear hp hk3 hsb
                    as_aux_lemma =>
                    go_wp2
                    go_quiet (fail)
                    obtain ⟨wq, hwq⟩ : ∃ wq, wr.drewN nq = wq := ⟨_, rfl⟩
                    have fq : Fr [] wr wq := by rw [← hwq]; exact ⟨rfl, rfl, rfl, Nat.le_refl _, fun _ _ _ => rfl⟩
                    rw [hwq]
                    have RQ := Hid.mk (hR.out.kept fq)
                    have FQ := Hid.mk (hF.out.trans fq)
                    clear hwq c0 c3 d0 d3
                    go_wp2_with (first
                      | (refine wp_appIL rfl _ _ rfl w (.slice a12 m12 q12) (afterTo t k i) rfl ((R1.out.each (.slice a12 m12 q12, afterTo t k i) (by simp)).kept0 ((Fr.refl _ _).alloc _)) (fr1.alloc _) w1.heap.size 1 i rfl (cell_new1 _ _ _) (by rw [M12.out]; omega) ?_; rw [M12.out]; intro g2 cp2 w2 h2 f2 fr2 at2; have R2 := Hid.mk (Rws.app (xs := [(.slice adu lu capu, anc t k), (.slice a8 m8 q8, belowTo t k i), (.slice a9 m9 q9, beforeTo t k i), (.slice (some ⟨g1, 0, none⟩) (m10 + 1) cp1, behindTo t k i ++ [i]), (.slice a11 m11 q11, aheadTo t k i)]) (ys := []) R1.out h2 f2 at2); clear h2 f2 at2)
                      | (refine wp_appIL rfl _ _ rfl w (.slice a10 m10 q10) (behindTo t k i) rfl ((RQ.out.each (.slice a10 m10 q10, behindTo t k i) (by simp)).kept0 ((Fr.refl _ _).alloc _)) (FQ.out.alloc _) wq.heap.size 1 i rfl (cell_new1 _ _ _) (by rw [M10.out]; omega) ?_; rw [M10.out]; intro g1 cp1 w1 h1 f1 fr1 at1; have R1 := Hid.mk (Rws.app (xs := [(.slice adu lu capu, anc t k), (.slice a8 m8 q8, belowTo t k i), (.slice a9 m9 q9, beforeTo t k i)]) (ys := [(.slice a11 m11 q11, aheadTo t k i), (.slice a12 m12 q12, afterTo t k i)]) RQ.out h1 f1 at1); clear h1 f1 at1)
                      | (go_at_call 42; refine (cB.out _ FQ.out).mono ?_; rw [HB.out]; rintro e wz ⟨rfl, hwz⟩; have hwz2 := hwz.symm; subst hwz2; clear hwz)
                      | go_in)
                    refine ⟨⟨i + 1, by omega, by go_num, ?_, fr2⟩, by simp [RowKit.intOf]; omega⟩
                    show Rws _ _ (six t k _ _ _ _ _ _ (i + 1))
                    unfold six
                    rw [belowTo_step, beforeTo_step, behindTo_step, aheadTo_step, afterTo_step, if_neg (fun x => by have := x.2.2; rw [HB.out] at this; cases this), if_neg (fun x => absurd x.1.2.1 (by omega)), if_pos ⟨H3.out, hik, HB.out⟩, if_neg (fun x => absurd x.2.1 (by omega)), if_pos ⟨⟨H3.out, hik, HB.out⟩, HSB.out⟩]
                    simp only [List.append_nil]
                    exact R2.out
                · have hpb : (PI == PK) = false := by rw [beq_eq_false_iff_ne]; exact hp
                  have HSB : Hid (sibB t k i = false) := by show sibB t k i = false; rw [hsb]; simp [hp]
                  clear hp hsb
                  as_aux_lemma =>
                  go_wp2
                  go_quiet (fail)
                  obtain ⟨wq, hwq⟩ : ∃ wq, wr.drewN nq = wq := ⟨_, rfl⟩
                  have fq : Fr [] wr wq := by rw [← hwq]; exact ⟨rfl, rfl, rfl, Nat.le_refl _, fun _ _ _ => rfl⟩
                  rw [hwq]
                  have RQ := Hid.mk (hR.out.kept fq)
                  have FQ := Hid.mk (hF.out.trans fq)
                  clear hwq c0 c3 d0 d3
                  go_wp2_with (first
                    | (refine wp_appIL rfl _ _ rfl w (.slice a10 m10 q10) (behindTo t k i) rfl ((RQ.out.each (.slice a10 m10 q10, behindTo t k i) (by simp)).kept0 ((Fr.refl _ _).alloc _)) (FQ.out.alloc _) wq.heap.size 1 i rfl (cell_new1 _ _ _) (by rw [M10.out]; omega) ?_; rw [M10.out]; intro g1 cp1 w1 h1 f1 fr1 at1; have R1 := Hid.mk (Rws.app (xs := [(.slice adu lu capu, anc t k), (.slice a8 m8 q8, belowTo t k i), (.slice a9 m9 q9, beforeTo t k i)]) (ys := [(.slice a11 m11 q11, aheadTo t k i), (.slice a12 m12 q12, afterTo t k i)]) RQ.out h1 f1 at1); clear h1 f1 at1)
                    | (go_at_call 42; refine (cB.out _ FQ.out).mono ?_; rw [HB.out]; rintro e wz ⟨rfl, hwz⟩; have hwz2 := hwz.symm; subst hwz2; clear hwz)
                    | go_in)
                  refine ⟨⟨i + 1, by omega, by go_num, ?_, fr1⟩, by simp [RowKit.intOf]; omega⟩
                  show Rws _ _ (six t k _ _ _ _ _ _ (i + 1))
                  unfold six
                  rw [belowTo_step, beforeTo_step, behindTo_step, aheadTo_step, afterTo_step, if_neg (fun x => by have := x.2.2; rw [HB.out] at this; cases this), if_neg (fun x => absurd x.1.2.1 (by omega)), if_pos ⟨H3.out, hik, HB.out⟩, if_neg (fun x => absurd x.2.1 (by omega)), if_neg (fun x => by have := x.2; rw [HSB.out] at this; cases this)]
                  simp only [List.append_nil]
                  exact R1.out
        · obtain rfl : i = t.length := by omega
          have hsix := six_each hR.out
          rw [below_eq HG.out.ords hk, behind_eq HG.out.ords hk, before_is HG.out.ords hk, after_is HG.out.ords hk] at hsix
          have HX6 := Hid.mk hsix
          rw [below_eq HG.out.ords hk] at M8
          rw [before_is HG.out.ords hk] at M9
          have HAH := Hid.mk (ahead_eq hk)
          have cW := Hid.mk (fun w' (f : Fr [] w w') att => refWith_any w' b off c t (HN.out.kept f (by simp)) (by omega) (k : Int) att)
          have HW1 : Hid (withTo t (k : Int) false t.length = kidsL t k) := with_kids HG.out.ords (by omega) (by omega)
          have HW2 : Hid (withTo t (k : Int) true t.length = attrsL k (attrEnds t k)) := attrs_eq HG.out hk (attrEnds_is hk)
          have hluA := hlen
          obtain ⟨X, hX⟩ : ∃ X : Int, (ax : Int) = X := ⟨_, rfl⟩
          rw [hX]
          clear hsix hR hil
          by_cases hx : 1 ≤ ax ∧ ax ≤ 12
          · rcases (by omega : ax = 1 ∨ ax = 2 ∨ ax = 3 ∨ ax = 4 ∨ ax = 5 ∨ ax = 6 ∨ ax = 7 ∨ ax = 8 ∨ ax = 9 ∨ ax = 10 ∨ ax = 11 ∨ ax = 12) with hA | hA | hA | hA | hA | hA | hA | hA | hA | hA | hA | hA
            · obtain rfl : X = 1 := by rw [← hX, hA]; rfl
              have HGA : Hid (goA t k ax = kidsL t k) := by rw [hA]; rfl
              clear hX hA hx hax
              as_aux_lemma =>
              go_wp2_with (first
                | (go_at_call 43; refine (cW.out _ hF.out false).mono ?_; rw [HW1.out]; rintro e w7 ⟨⟨v7, rfl, hv7⟩, f7⟩)
                | fail)
              go_ret
              rw [HGA.out]
              exact ⟨⟨_, rfl, hv7.from hF.out⟩, hF.out.trans f7⟩
            · obtain rfl : X = 2 := by rw [← hX, hA]; rfl
              have HGA : Hid (goA t k ax = str t (k + 1) (endOf t k)) := by rw [hA]; rfl
              clear hX hA hx hax
              as_aux_lemma =>
              go_wp2
              go_ret
              rw [HGA.out]
              exact ⟨⟨_, rfl, HX6.out.2.1⟩, hF.out⟩
            · obtain rfl : X = 3 := by rw [← hX, hA]; rfl
              have HGA : Hid (goA t k ax = (anc t k).take 1) := by rw [hA]; rfl
              clear hX hA hx hax
              as_aux_lemma =>
              have hT := HX6.out.1
              have HU : Hid (l = anc t k) := HAN.out.symm
              cases lu with
              | zero =>
                go_wp2
                go_ret
                rw [HGA.out]
                exact ⟨⟨_, rfl, ints_take hT (HU.out ▸ HLU.out) 0 (Or.inl ⟨rfl, rfl⟩)⟩, hF.out⟩
              | succ lu =>
                have hm : min ((lu : Int) + 1) 1 = 1 := by omega
                have hcap := ints_cap hT (HU.out ▸ HLU.out)
                have hcap' : (1 : Int) ≤ (capu : Int) := by omega
                go_wp2
                go_ret
                rw [HGA.out]
                exact ⟨⟨_, rfl, ints_take hT (HU.out ▸ HLU.out) 1 (Or.inr ⟨rfl, by omega⟩)⟩, hF.out⟩
            · obtain rfl : X = 4 := by rw [← hX, hA]; rfl
              have HGA : Hid (goA t k ax = anc t k) := by rw [hA]; rfl
              clear hX hA hx hax
              as_aux_lemma =>
              go_wp2
              go_ret
              rw [HGA.out]
              exact ⟨⟨_, rfl, HX6.out.1⟩, hF.out⟩
            · obtain rfl : X = 5 := by rw [← hX, hA]; rfl
              have HGA : Hid (goA t k ax = sibBehind t k) := by rw [hA]; rfl
              clear hX hA hx hax
              as_aux_lemma =>
              go_wp2
              go_ret
              rw [HGA.out]
              exact ⟨⟨_, rfl, HX6.out.2.2.2.2.2⟩, hF.out⟩
            · obtain rfl : X = 6 := by rw [← hX, hA]; rfl
              have HGA : Hid (goA t k ax = (sibAhead t k).reverse) := by rw [hA]; rfl
              clear hX hA hx hax
              as_aux_lemma =>
              have hT := HX6.out.2.2.1
              go_wp2_with (first
                | (go_at_call 44; refine (refTurned_any _ w _ _ hT (by rw [M9.out]; omega)).mono ?_; rintro e w7 ⟨⟨v7, rfl, hv7⟩, f7⟩)
                | fail)
              go_ret
              rw [HGA.out]
              exact ⟨⟨_, rfl, hv7.from hF.out⟩, hF.out.trans f7⟩
            · obtain rfl : X = 7 := by rw [← hX, hA]; rfl
              have HGA : Hid (goA t k ax = str t (endOf t k) t.length) := by rw [hA]; rfl
              clear hX hA hx hax
              as_aux_lemma =>
              go_wp2
              go_ret
              rw [HGA.out]
              exact ⟨⟨_, rfl, HX6.out.2.2.2.1⟩, hF.out⟩
            · obtain rfl : X = 8 := by rw [← hX, hA]; rfl
              have HGA : Hid (goA t k ax = prec t k) := by rw [hA]; rfl
              clear hX hA hx hax
              as_aux_lemma =>
              have hT := HX6.out.2.2.2.2.1
              go_wp2_with (first
                | (go_at_call 44; refine (refTurned_any _ w _ _ hT (by rw [M11.out]; omega)).mono ?_; rintro e w7 ⟨⟨v7, rfl, hv7⟩, f7⟩)
                | fail)
              go_ret
              rw [HGA.out]
              exact ⟨⟨_, rfl, HAH.out ▸ hv7.from hF.out⟩, hF.out.trans f7⟩
            · obtain rfl : X = 9 := by rw [← hX, hA]; rfl
              have HGA : Hid (goA t k ax = attrsL k (attrEnds t k)) := by rw [hA]; rfl
              clear hX hA hx hax
              as_aux_lemma =>
              go_wp2_with (first
                | (go_at_call 43; refine (cW.out _ hF.out true).mono ?_; rw [HW2.out]; rintro e w7 ⟨⟨v7, rfl, hv7⟩, f7⟩)
                | fail)
              go_ret
              rw [HGA.out]
              exact ⟨⟨_, rfl, hv7.from hF.out⟩, hF.out.trans f7⟩
            · obtain rfl : X = 10 := by rw [← hX, hA]; rfl
              have HGA : Hid (goA t k ax = [k]) := by rw [hA]; rfl
              clear hX hA hx hax
              as_aux_lemma =>
              go_wp2
              go_ret
              rw [HGA.out]
              exact ⟨⟨_, rfl, ints_one hF.out k⟩, hF.out.alloc _⟩
            · obtain rfl : X = 11 := by rw [← hX, hA]; rfl
              have HGA : Hid (goA t k ax = k :: str t (k + 1) (endOf t k)) := by rw [hA]; rfl
              clear hX hA hx hax
              as_aux_lemma =>
              have hT := Hid.mk (HX6.out.2.1)
              go_wp2_with (first
                | (refine wp_appIs rfl _ _ rfl w (.slice (some ⟨wr.heap.size, 0, none⟩) 1 1) [k] rfl (ints_one hF.out k) (hF.out.alloc _) w (.slice a8 m8 q8) (str t (k + 1) (endOf t k)) rfl (hT.out.kept0 ((Fr.refl _ _).alloc _)) (by rw [M8.out]; simp; omega) ?_; intro v8 w8 h8 fr8 f8)
                | fail)
              go_ret
              rw [HGA.out]
              exact ⟨⟨v8, rfl, h8⟩, fr8⟩
            · obtain rfl : X = 12 := by rw [← hX, hA]; rfl
              have HGA : Hid (goA t k ax = k :: anc t k) := by rw [hA]; rfl
              clear hX hA hx hax
              as_aux_lemma =>
              have hT := Hid.mk (HX6.out.1)
              go_wp2_with (first
                | (refine wp_appIs rfl _ _ rfl w (.slice (some ⟨wr.heap.size, 0, none⟩) 1 1) [k] rfl (ints_one hF.out k) (hF.out.alloc _) w (.slice adu lu capu) (anc t k) rfl (hT.out.kept0 ((Fr.refl _ _).alloc _)) (by rw [HAN.out, HLU.out]; simp; omega) ?_; intro v8 w8 h8 fr8 f8)
                | fail)
              go_ret
              rw [HGA.out]
              exact ⟨⟨v8, rfl, h8⟩, fr8⟩
          · have HGA : Hid (goA t k ax = []) := by
              show goA t k ax = []
              unfold goA
              split <;> first | rfl | omega
            have b1 : (X == 1) = false := by rw [beq_eq_false_iff_ne]; omega
            have b2 : (X == 2) = false := by rw [beq_eq_false_iff_ne]; omega
            have b3 : (X == 3) = false := by rw [beq_eq_false_iff_ne]; omega
            have b4 : (X == 4) = false := by rw [beq_eq_false_iff_ne]; omega
            have b5 : (X == 5) = false := by rw [beq_eq_false_iff_ne]; omega
            have b6 : (X == 6) = false := by rw [beq_eq_false_iff_ne]; omega
            have b7 : (X == 7) = false := by rw [beq_eq_false_iff_ne]; omega
            have b8 : (X == 8) = false := by rw [beq_eq_false_iff_ne]; omega
            have b9 : (X == 9) = false := by rw [beq_eq_false_iff_ne]; omega
            have b10 : (X == 10) = false := by rw [beq_eq_false_iff_ne]; omega
            have b11 : (X == 11) = false := by rw [beq_eq_false_iff_ne]; omega
            have b12 : (X == 12) = false := by rw [beq_eq_false_iff_ne]; omega
            clear hX hx hax
            as_aux_lemma =>
            go_wp2
            go_ret
            rw [HGA.out]
            exact ⟨⟨_, rfl, Ints.nil _ _⟩, hF.out⟩
    · have h0' : (0 : Int) ≤ u := by omega
      obtain ⟨m, rfl⟩ : ∃ m : Nat, u = (m : Int) := ⟨u.toNat, by omega⟩
      have hm : (m : Int) < (t.length : Int) := by omega
      have om := (HG.out m (by omega)).1
      have hL' : Hid ((l ++ [m]) ++ ancI t (par t m) = AN) := by
        show _ = _
        rw [← hL.out, ancI_nat, anc_eq om.2.1, List.append_assoc]
        rfl
      have hpm := om.2.1
      have hll : l.length ≤ AN.length := by rw [← hL.out, List.length_append]; omega
      obtain ⟨ad, cap, rfl, _⟩ := hI.out.shape
      obtain ⟨p, hp⟩ : ∃ p, par t m = p := ⟨_, rfl⟩
      rw [hp] at hL' hpm
      have HP := Hid.mk hp
      clear om hp hL
      go_wp2_with (first
        | (refine wp_appI rfl _ _ rfl w (.slice ad l.length cap) l rfl (hI.out.kept0 ((Fr.refl _ _).alloc _)) (by have := frh.out.size; simp; omega) wr.heap.size 1 m rfl (cell_new1 _ _ _) (by omega) ?_ (frh.out.alloc _); intro v' w' hI' _ f'; obtain ⟨d0, d1, d2, d3⟩ := (HN.out.kept f' (by simp)) m (by omega); rw [HP.out] at d3; clear d0 d1 d2)
        | go_in)
      exact ⟨⟨p, l ++ [m], rfl, by omega, hL', hI', f'⟩, by simp [RowKit.intOf]; omega⟩
end Go.Proofs.YtdfgmdddnehocaaDoor

