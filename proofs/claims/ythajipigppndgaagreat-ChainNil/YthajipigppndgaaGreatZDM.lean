/-
  The chapter's example of a chain.
-/
import Derived.Test.YthajipigppndgaaGreatZCM
namespace Go.Proofs.YthajipigppndgaaGreat
open Go.RowKit Go.Maps
open Pg (SpE diffS)
abbrev rigK (rg bp : Nat) (v1 v2 : Value) : Nat × Obj := (rg, .cells #[.pointer (some ⟨bp, 0, none⟩), v1, v2] 51)
structure Aw (w0 w : World) (rg bp : Nat) (v1 v2 : Value) (m : Mst) (U : Pages) (b : Bk) (H : List Ch) (V : Pages) (ps : List Nat) (K : KL) : Prop where
  i : In w0 w bp (K ++ [rigK rg bp v1 v2]) 124 m U b H V
  pages : b.x.pages = 60
  ph : phN b H ≤ 12500
  A : 0 ≤ (b.x.y.A : Int)
  laid : Laid 60 (fmtV 60 Z0) V (bysL 1000) ps
  two : ps.length = 2
theorem fmt60 : Spz 60 (fmtV 60 Z0) (fun k => decide (k < 2)) := fmt_spz (fun t _ => Z0_len _) (by omega) (fun p _ _ => rfl)
theorem none60 {ps : List Nat} {V1 : Pages} (hlen : ∀ q, q < 60 → (fmtV 60 Z0 q).length = 512) (tk : Tkn 60 (fmtV 60 Z0) ps V1) (hl : ps.length < 2) (hn : NoneF V1 60) : False := by
  have ok := tk.ok fmt60.sp hlen
  have key : ∀ k, 2 ≤ k → k < 60 → k ∈ ps := fun k h1 h2 => by
    have h3 := ok.bits k h2
    rw [hn k h2, fmt60.bits k h2, decide_eq_false (show ¬ k < 2 by omega), Bool.false_or] at h3
    exact of_decide_eq_true h3.symm
  have a2 := key 2 (by omega) (by omega)
  have a3 := key 3 (by omega) (by omega)
  rcases ps with _ | ⟨x, _ | ⟨y, ps⟩⟩
  · cases a2
  · rw [List.mem_singleton] at a2 a3
    omega
  · simp at hl
    omega
set_option maxHeartbeats 4000000 in
set_option maxRecDepth 100000 in
theorem naput {w0 w : World} {rg bp gb : Nat} {b : Bk} {m : Mst} {v1 v2 : Value} {U : Pages} (h : In w0 w bp [(gb, .cells (arr (bysL 1000)) 5), rigK rg bp v1 v2] 124 m U b [] (fmtV 60 Z0)) (hpg : b.x.pages = 60) (hph : phN b [] ≤ 800) (hA : 0 ≤ (b.x.y.A : Int)) :
    Calls Tryz.prog 12 #[.pointer (some ⟨bp, 0, none⟩), .slice (some ⟨gb, 0, none⟩) 1000 1000] w fun e w' => ∃ ps b' H' V', e = .returned (.tuple #[.int .i64 (ps.getD 0 0 : Nat), .int .i64 0]) ∧ Hid (Aw w0 w' rg bp v1 v2 m U b' H' V' ps []) := by
  have hcap : 24888 ≤ capN b := by
    have := h.capn
    omega
  have PX := nput_any h (by rw [hpg]; exact fmt60.sp) gb 0 1000 1000 (bysL 1000) (bysL_length 1000) (.cells (arr (bysL 1000)) 5) (by simp) (fun w' hw => Blk.bytes (show Blk w' gb (bysL 1000) from hw)) (by omega) (by omega) (by omega) 2 0 (by omega)
    (fun p hp ho S hS => cost_zs (fmt60.z p (by rw [hpg] at ho; exact ho) (by rw [hpg] at hp; exact hp)) hS) (by omega)
  refine PX.mono ?_
  rintro e w' ⟨f, r, rfl, P⟩
  rcases P.out with ⟨-, -, hno, -⟩ | ⟨rfl, ps, V1, b', H', hl, tk, rfl, D⟩
  · exfalso
    rcases hno with ⟨ps, V1, h1, h2, h3⟩ | h1
    · rw [hpg] at h2 h3
      exact none60 (fun q hq => h.len (by rw [hpg]; exact hq)) h2 h1 h3
    · omega
  · rw [hpg] at tk
    have ok := tk.ok fmt60.sp (fun q hq => by
      have := h.len (q := q) (by rw [hpg]; exact hq)
      exact this)
    have hlaid := laid_of (N := 2) (data := bysL 1000) (by rw [bysL_length]) hl (by rw [bysL_length]; omega) (by rw [bysL_length]; omega) (by omega) ok
    refine ⟨ps, b', H', _, rfl, hidI ⟨D.i.on (D.i.ab.less (fun p hp => by simp at hp; simp [hp])), D.tr.pages.trans hpg, ?_, ?_, hlaid, hl⟩⟩
    · have := D.ph
      omega
    · rw [D.tr.A]
      exact hA
theorem RowK.bytes {base : Nat} {v : Value} {l : List UInt8} {KR : KL} (h : RowK base 5 v (arr l).toList KR) : ∃ a c, v = .slice a l.length c ∧ Hid (∀ w' : World, (∀ p ∈ KR, w'.heap[p.1]? = some p.2) → BytesAt w' a l) := by
  have hl : (arr l).toList.length = l.length := by simp [arr]
  rcases h with ⟨rfl, h2, -⟩ | ⟨g, cap, cur, h4, -, h5, -, -, -, h6⟩
  · have : l = [] := by
      have := congrArg List.length h2
      rw [hl] at this
      exact List.eq_nil_of_length_eq_zero (by simpa using this)
    subst this
    exact ⟨none, 0, rfl, hidI (fun w' _ => BytesAt.nil _ _)⟩
  · rw [hl] at h4 h6
    refine ⟨some ⟨g, 0, none⟩, cap, h4, hidI (fun w' hk j u hu => ⟨g, 0, rfl, ?_⟩)⟩
    rw [Nat.zero_add]
    refine (cell_of_row w' g j _ _ _ (hk (g, .cells cur 5) (by rw [h5]; simp))).trans ?_
    have hj : j < l.length := by
      have := (List.getElem?_eq_some_iff.1 hu).1
      rwa [hl] at this
    rw [← h6, List.getElem?_take, if_pos hj] at hu
    rw [← Array.getElem?_toList]
    exact hu
theorem RowK.len {base : Nat} {e : TypeId} {v : Value} {xs : List Value} {KR : KL} (h : RowK base e v xs KR) : ∃ a c, v = .slice a xs.length c := by
  rcases h with ⟨rfl, rfl, -⟩ | ⟨g, cap, cur, h4, -⟩
  · exact ⟨none, 0, rfl⟩
  · exact ⟨_, _, h4⟩
section
variable {w0 w w' : World} {rg bp : Nat} {v1 v2 : Value} {m : Mst} {U : Pages} {b b' : Bk} {H : List Ch} {V : Pages} {ps : List Nat} {K K' : KL}
theorem Aw.rd (h : Aw w0 w rg bp v1 v2 m U b H V ps K) (r : Rd w0 w' bp (K' ++ [rigK rg bp v1 v2]) b b') : Aw w0 w' rg bp v1 v2 m U b' H V ps K' :=
  ⟨h.i.rd r, r.tr.pages.trans h.pages, by have := h.ph; unfold phN at this ⊢; rw [r.E]; exact this, by rw [r.tr.A]; exact h.A, h.laid, h.two⟩
theorem Aw.quiet (h : Aw w0 w rg bp v1 v2 m U b H V ps K) (f : Fr [] w w') : Aw w0 w' rg bp v1 v2 m U b H V ps K := ⟨h.i.quiet f, h.pages, h.ph, h.A, h.laid, h.two⟩
theorem Aw.c0 (h : Aw w0 w rg bp v1 v2 m U b H V ps K) : w.cell? ⟨rg, 0, none⟩ = some (.pointer (some ⟨bp, 0, none⟩)) := cell_of_row w rg 0 _ _ _ (h.i.ab.kp (rigK rg bp v1 v2) (by simp)).1
theorem Aw.hd (h : Aw w0 w rg bp v1 v2 m U b H V ps K) : IsHd b.x.pages (V 0) := by rw [h.pages]; exact h.laid.sp.hd
theorem aw_get (h : Aw w0 w rg bp v1 v2 m U b H V ps K) (first : Int) {l : List Nat} (hw : ChW 60 V first l true) : Calls Tryz.prog 13 #[.pointer (some ⟨bp, 0, none⟩), .int .i64 first] w fun e w' => ∃ v KR, e = .returned (.tuple #[v, .int .i64 0]) ∧ ∃ b', Hid (Aw w0 w' rg bp v1 v2 m U b' H V ps (KR ++ K) ∧ RowK w0.heap.size 5 v (arr (valOf V l)).toList KR) := by
  refine (nget_any h.i.ab h.i.tx.sh (by rw [h.pages]; omega) (by rw [h.pages]; omega) h.hd first (l := l) (t := true) (by rw [h.pages]; exact hw)).mono ?_
  rintro e w' ⟨v, ev, rfl, KR, T⟩
  obtain ⟨⟨b', r⟩, dj, T2⟩ := T.out
  rcases T2 with ⟨h1, -⟩ | ⟨-, rfl, hr⟩
  · cases h1
  · exact ⟨v, KR, rfl, b', hidI ⟨h.rd (K' := KR ++ K) (by rw [List.append_assoc]; exact r), hr⟩⟩
theorem aw_blocks (h : Aw w0 w rg bp v1 v2 m U b H V ps K) (first : Int) {l : List Nat} (hw : ChW 60 V first l true) : Calls Tryz.prog 14 #[.pointer (some ⟨bp, 0, none⟩), .int .i64 first] w fun e w' => ∃ v KR, e = .returned (.tuple #[v, .int .i64 0]) ∧ ∃ b', Hid (Aw w0 w' rg bp v1 v2 m U b' H V ps (KR ++ K) ∧ RowK w0.heap.size 3 v (l.map fun q : Nat => Value.int .i64 (q : Int)) KR) := by
  refine (nblocks_any h.i.ab h.i.tx.sh (by rw [h.pages]; omega) (by rw [h.pages]; omega) h.hd first (l := l) (t := true) (by rw [h.pages]; exact hw)).mono ?_
  rintro e w' ⟨v, ev, rfl, KR, T⟩
  obtain ⟨⟨b', r⟩, dj, T2⟩ := T.out
  rcases T2 with ⟨h1, -⟩ | ⟨-, rfl, hr⟩
  · cases h1
  · exact ⟨v, KR, rfl, b', hidI ⟨h.rd (K' := KR ++ K) (by rw [List.append_assoc]; exact r), hr⟩⟩
theorem aw_drop (h : Aw w0 w rg bp v1 v2 m U b H V ps K) : Calls Tryz.prog 15 #[.pointer (some ⟨bp, 0, none⟩), .int .i64 (ps.getD 0 0 : Nat)] w fun e w' => e = .returned (.int .i64 0) ∧ Fr [] w0 w' := by
  have hcap : 24888 ≤ capN b := by
    have := h.i.capn
    have := h.A
    omega
  refine (ndrop_any h.i (by rw [h.pages]; exact h.laid.sp) _ (l := ps) (t := true) (by rw [h.pages]; exact h.laid.ch) (by rw [h.two]; omega) (by have := h.ph; rw [h.two]; omega)).mono ?_
  rintro e w' ⟨r, rfl, D⟩
  rcases D.out with ⟨h1, -⟩ | ⟨-, -, h1, -⟩ | ⟨-, rfl, b', H', D2⟩
  · cases h1
  · exfalso
    have := h.ph
    rw [h.two] at h1
    omega
  · exact ⟨rfl, D2.i.ab.fr⟩
end
set_option maxHeartbeats 4000000 in
set_option maxRecDepth 100000 in
theorem nawake_ok (w : World) : Calls Tryz.prog 9 #[] w fun e w' => e = .returned (.bool true) ∧ Fr [] w w' := by
  have BX := nbegin_ok w
  have BYX : Hid (∀ W : World, Calls Tryz.prog 18 #[.int .i64 1000] W fun e w' => ∃ g, e = .returned (.slice (some ⟨g, 0, none⟩) 1000 1000) ∧ Hid (Blk w' g (bysL 1000) ∧ W.heap.size ≤ g ∧ Fr [] W w')) := hidI (fun W => nbys_any W 1000 (by omega))
  go_enter Tryz.func9, Tryz.ntmps9
  go_upto_region 4 with (first
    | (go_at_call 8
       refine BX.mono ?_
       rintro e w1 ⟨rg, rfl, P1⟩
       clear BX))
  obtain ⟨hrg, bp, b, m, R⟩ := P1.out
  obtain ⟨v1, v2, U, I1⟩ := R.i
  have c0 : w1.cell? ⟨rg, 0, none⟩ = some (.pointer (some ⟨bp, 0, none⟩)) := cell_of_row w1 rg 0 _ _ _ (I1.ab.kp _ (List.mem_cons_self ..)).1
  have HR := hidI (And.intro R (And.intro I1 hrg))
  clear P1 I1 R hrg
  go_cut [3, 4] from 17 to 25 (fun s3 s4 wx => ∃ ps : List Nat, s3 = .int .i64 (ps.getD 0 0 : Nat) ∧ s4 = .int .i64 0 ∧ Hid (∃ b' H' V', Aw w wx rg bp v1 v2 m U b' H' V' ps []))
  case first => as_aux_lemma =>
    have SK := hidI (fun (W : World) (f : Fr [] w1 W) => (show W.cell? ⟨rg, 0, none⟩ = some (.pointer (some ⟨bp, 0, none⟩)) from cell_of_row W rg 0 _ _ _ (f.same (by simp) (HR.out.2.1.ab.kp _ (List.mem_cons_self ..)).1)))
    have gg : Fr [] w1 w1.drew := (Fr.refl [] w1).drew
    clear c0
    have c0 := SK.out _ gg
    go_region_with (first
      | (go_at_call 18
         refine (BYX.out _).mono ?_
         rintro e w2 ⟨gb, rfl, P2⟩
         have gg2 := gg.trans P2.out.2.2
         have c2 := SK.out _ gg2
         have I2 := HR.out.2.1.quiet gg2
         have PX := hidI (naput (I2.on (I2.ab.add P2.out.1 (HR.out.2.1.ab.fresh (by have := P2.out.2.1; simpa using this)).2.1)) HR.out.1.pages HR.out.1.ph HR.out.1.A.2)
         clear c0 I2)
      | (go_at_call 12
         refine PX.out.mono ?_
         rintro e w3 ⟨ps, b3, H3, V3, rfl, A3⟩))
    all_goals go_wp2_with fail
    all_goals go_meet
    all_goals exact ⟨ps, rfl, rfl, hidI ⟨b3, H3, V3, A3.out⟩⟩
  case rest =>
    obtain ⟨ps, rfl, rfl, A⟩ := hcut
    obtain ⟨b2, H2, V2, A2⟩ : ∃ b2 H2 V2, Hid (Aw w wc rg bp v1 v2 m U b2 H2 V2 ps []) := by
      obtain ⟨b2, H2, V2, h⟩ := A.out
      exact ⟨b2, H2, V2, hidI h⟩
    have hq : ChW 60 V2 (ps.getD 0 0 : Nat) ps true := A2.out.laid.ch
    have h0 : ChW 60 V2 0 [] true := .inl ⟨rfl, rfl, rfl⟩
    have c2 := A2.out.c0
    have GX := aw_get A2.out _ hq
    obtain ⟨q0, hq0⟩ : ∃ q0, ps.getD 0 0 = q0 := ⟨_, rfl⟩
    have HQ := hidI (And.intro hq (And.intro h0 hq0))
    rw [hq0] at GX ⊢
    clear c0 hq h0 hq0 A
    go_upto_region 8 with (first
      | (go_at_call 13
         refine GX.mono ?_
         rintro e w3 ⟨d1, KR1, rfl, b3, A3⟩
         have c3 := A3.out.1.c0
         have KX := aw_blocks A3.out.1 _ HQ.out.1
         rw [HQ.out.2.2] at KX
         clear GX c2)
      | (go_at_call 14
         refine KX.mono ?_
         rintro e w4 ⟨d2, KR2, rfl, b4, A4⟩
         have c4 := A4.out.1.c0
         have ZX := aw_get A4.out.1 0 HQ.out.2.1
         clear KX c3)
      | (go_at_call 13
         refine ZX.mono ?_
         rintro e w5 ⟨d3, KR3, rfl, b5, A5⟩
         have c5 := A5.out.1.c0
         clear ZX c4))
    have hv1 := A3.out.2
    rw [A2.out.laid.val] at hv1
    obtain ⟨a1, k1, rfl, hb1⟩ := hv1.bytes
    obtain ⟨a2, k2, rfl⟩ := A4.out.2.len
    obtain ⟨a3, k3, rfl⟩ := A5.out.2.len
    have e2 : (ps.map fun q : Nat => Value.int .i64 (q : Int)).length = 2 := by rw [List.length_map, A2.out.two]
    have e3 : (arr (valOf V2 [])).toList.length = 0 := rfl
    rw [bysL_length, e2, e3]
    have SX := hidI (fun (W : World) (f : Fr [] w5 W) (g : Nat) (hg : Blk W g (bysL 1000)) => same_ownS W a1 (some ⟨g, 0, none⟩) (bysL 1000) (bysL 1000) 1000 k1 1000 (hb1.out W (fun p hp => f.same (by simp) (A5.out.1.i.ab.kp p (by simp [hp])).1)) hg.bytes (bysL_length _) (bysL_length _) (by omega))
    have DX := hidI (fun (W : World) (f : Fr [] w5 W) => aw_drop (A5.out.1.quiet f))
    rw [HQ.out.2.2] at DX
    have SK := hidI (fun (W : World) (f : Fr [] w5 W) => (A5.out.1.quiet f).c0)
    clear hv1 e2 e3 hb1 c5
    go_wp2_with (first
      | (go_at_call 18
         refine (BYX.out _).mono ?_
         rintro e w6 ⟨g6, rfl, P6⟩
         have SX6 := SX.out w6 P6.out.2.2 g6 P6.out.1
         rw [beq_self_eq_true] at SX6)
      | (go_at_call 22
         refine SX6.mono ?_
         rintro e w7 ⟨rfl, f7⟩
         have c7 := SK.out w7 (P6.out.2.2.trans f7)
         have DX7 := DX.out w7 (P6.out.2.2.trans f7)
         clear SX6)
      | (go_at_call 15
         refine DX7.mono ?_
         rintro e w8 ⟨rfl, f8⟩))
    go_ret
    exact ⟨rfl, f8⟩
end Go.Proofs.YthajipigppndgaaGreat

