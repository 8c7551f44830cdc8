/-
  A value's links, laid over its pages.
-/
import Derived.Test.YthajipigppndgaaGreatY42Z
import Derived.Test.YthajipigppndgaaGreatY36Z
namespace Go.Proofs.YthajipigppndgaaGreat
open Go.RowKit Go.Maps
open Pg (SpE diffS)
theorem appA_run {w0 W : World} {bp : Nat} {b : Bk} {KR KO : KL} {t ty e : TypeId} {i : TypeInfo} {z : Value} {bytes : Nat} (ht : Tryz.prog.underlying t = some (.slice e)) (hi : Tryz.prog.info? e = some i) (hz : i.zero = some z) (hsize : i.size = 1) (hby : i.bytes = bytes) (hzs : z.cells.size = 1)
    (h3 : e ≠ 140) (h4 : e ≠ 38) {v : Value} {xs : List Value} (hrow : RowK w0.heap.size e v xs KR) (hs : Ab w0 W bp b (KR ++ KO)) (dj : Dj KR KO) (ad : Addr) (c : Nat) (news : List Value) (hnews : ∀ j u, news[j]? = some u → W.cell? (ad.add j) = some u) (h1 : ∀ u ∈ news, u.oneCell' = true) (hm : 0 < news.length) (hb : xs.length + news.length ≤ 16777216) (hby8 : bytes ≤ 64) :
    ∃ g cap w' KR', (Builtin.append_ #[t, t] ty #[v, .slice (some ad) news.length c]).run Tryz.prog W = .ok (.slice (some ⟨g, 0, none⟩) (xs.length + news.length) cap) w' ∧ RowK w0.heap.size e (.slice (some ⟨g, 0, none⟩) (xs.length + news.length) cap) (xs ++ news) KR' ∧ Ab w0 w' bp b (KR' ++ KO) ∧ Dj KR' KO := by
  have hown : W.ownsRow w0.heap.size e 1 v xs.length xs := by
    refine ⟨by simp, ?_⟩
    rcases hrow with ⟨rfl, rfl, _⟩ | ⟨g, cap, cur, rfl, hg, rfl, h5, h6, h7, h8⟩
    · exact .inl ⟨rfl, rfl⟩
    · exact .inr ⟨g, cap, cur, rfl, hg, (hs.kp (g, .cells cur e) (by simp)).1, h5, h6, by omega, by rw [Nat.mul_one]; exact h8⟩
  have hbase := hs.fr.size
  have hlt : ∀ p ∈ KR ++ KO, p.1 < W.heap.size := fun p hp => (Array.getElem?_eq_some_iff.1 (hs.kp p hp).1).1
  obtain ⟨g, cap, w', hr, ho, hgr, hor, _⟩ := run_append_lies (P := Tryz.prog) W t ty w0.heap.size e i z 1 bytes ht hi hz hsize hby hzs (by omega) v xs.length xs hown ad news.length c news (by simp) hnews h1 hm (by unfold maxLen; omega) (by
    have : (xs.length + news.length) * bytes ≤ 16777216 * 64 := Nat.mul_le_mul hb hby8
    omega) hbase _ rfl
  have hrow' : ∃ cur, w'.heap[g]? = some (.cells cur e) ∧ w0.heap.size ≤ g ∧ RowK w0.heap.size e (.slice (some ⟨g, 0, none⟩) (xs.length + news.length) cap) (xs ++ news) [(g, .cells cur e)] := by
    rcases ho.2 with ⟨hv, _⟩ | ⟨g2, cap2, cur, hv, q1, q2, q3, q4, q5, q6⟩
    · cases hv
    · cases hv
      refine ⟨cur, q2, q1, .inr ⟨g, cap, cur, by simp, q1, rfl, by simpa using q3, q4, by omega, ?_⟩⟩
      rw [List.length_append]
      rw [Nat.mul_one] at q6
      exact q6
  obtain ⟨cur, hg', hgb, hR⟩ := hrow'
  refine ⟨g, cap, w', _, hr, hR, ?_⟩
  rcases hor with hor | hor
  · rcases hrow with ⟨rfl, _, _⟩ | ⟨g2, cap2, cur2, rfl, hg, rfl, h5, h6, h7, h8⟩
    · cases hor
    · obtain rfl : g2 = g := by simpa [Value.ownBlock] using hor
      have hdj : Dj [(g2, Obj.cells cur e)] KO := fun p hp q hq => by
        rw [List.mem_singleton.1 hp]
        exact dj (g2, .cells cur2 e) (by simp) q hq
      have k := hs.kp (g2, .cells cur2 e) (by simp)
      have aw := hs.bk.awayT k.1 h3 h4
      have f := fr_grown (L := [g2]) hgr (fun x hx => by cases hx; simp)
      have a2 := (hs.less (K' := KO) (fun p hp => List.mem_append.2 (.inr hp))).put f aw.1 k.2 aw.2 hg (fun p hp => fun e2 => dj (g2, .cells cur2 e) (by simp) p hp e2.symm)
      exact ⟨a2.add hg' k.2, hdj⟩
  · have hdj : Dj [(g, Obj.cells cur e)] KO := fun p hp q hq => by
      rw [List.mem_singleton.1 hp]
      have := hlt q (by simp [hq])
      show g ≠ q.1
      omega
    refine ⟨?_, hdj⟩
    rcases hrow with ⟨rfl, rfl, rfl⟩ | ⟨g2, cap2, cur2, rfl, hg, rfl, h5, h6, h7, h8⟩
    · exact (hs.quiet (fr_grown hgr (fun x hx => nomatch hx))).add hg' (hs.fresh (by omega)).2.1
    · have k := hs.kp (g2, .cells cur2 e) (by simp)
      have aw := hs.bk.awayT k.1 h3 h4
      have f := fr_grown (L := [g2]) hgr (fun x hx => by cases hx; simp)
      have a2 := (hs.less (K' := KO) (fun p hp => List.mem_append.2 (.inr hp))).put f aw.1 k.2 aw.2 hg (fun p hp => fun e2 => dj (g2, .cells cur2 e) (by simp) p hp e2.symm)
      exact a2.add hg' (hs.fresh (by omega)).2.1
section
variable {ops : Array Oper} {rest : List Oper} {o : Oper} {a : Act} {W : World} {Q : Exit → Act → World → Prop}
theorem wp_appA (hgd : o.guard = none) {w0 : World} {bp : Nat} {b : Bk} {KR KO : KL} {t e : TypeId} {i : TypeInfo} {z : Value} {bytes : Nat} (s y : Operand) (hop : o.op = .call { callee := .builtin .append, args := #[s, y], argTypes := #[t, t] }) (ht : Tryz.prog.underlying t = some (.slice e)) (hi : Tryz.prog.info? e = some i) (hz : i.zero = some z) (hsize : i.size = 1) (hby : i.bytes = bytes) (hzs : z.cells.size = 1)
    (h3 : e ≠ 140) (h4 : e ≠ 38) {v : Value} {xs : List Value} (hrow : RowK w0.heap.size e v xs KR) (hs : Ab w0 W bp b (KR ++ KO)) (dj : Dj KR KO) (ad : Addr) (m c : Nat) (news : List Value) (hv : a.eval s = v) (hy : a.eval y = .slice (some ad) m c) (hmn : news.length = m) (hnews : ∀ j u, news[j]? = some u → W.cell? (ad.add j) = some u) (h1 : ∀ u ∈ news, u.oneCell' = true) (hm : 0 < news.length) (hb : xs.length + news.length ≤ 16777216) (hby8 : bytes ≤ 64)
    (h : ∀ g cap w' KR', RowK w0.heap.size e (.slice (some ⟨g, 0, none⟩) (xs.length + m) cap) (xs ++ news) KR' → Ab w0 w' bp b (KR' ++ KO) → Dj KR' KO → wpList Tryz.prog ops Q rest (a.put o.dst (.slice (some ⟨g, 0, none⟩) (xs.length + m) cap)) w') : wpList Tryz.prog ops Q (o :: rest) a W := by
  subst hmn
  refine wpList_plain hgd fun K hK => ?_
  obtain ⟨g, cap, w', KR', hrun, q1, q2, q3⟩ := appA_run (ty := o.type) ht hi hz hsize hby hzs h3 h4 hrow hs dj ad c news hnews h1 hm hb hby8
  unfold Oper.wp execOp
  simp [hop, resolve, invoke, builtin, hv, hy, hrun, Result.andThen]
  exact hK _ _ (h g cap w' KR' q1 q2 q3)
end
inductive Tkn (n : Nat) : Pages → List Nat → Pages → Prop
  | nil (V : Pages) : Tkn n V [] V
  | snoc {V : Pages} {ps : List Nat} {V1 : Pages} {p : Nat} (h : Tkn n V ps V1) (hl : LowF V1 n p) : Tkn n V (ps ++ [p]) (takeV V1 p)
structure TknOk (n : Nat) (V : Pages) (ps : List Nat) (V' : Pages) : Prop where
  sp : Sp n V'
  len : ∀ q, q < n → (V' q).length = 512
  bits : ∀ k, k < n → MkB V' k = (MkB V k || decide (k ∈ ps))
  free : ∀ p ∈ ps, p < n ∧ ownN n ≤ p ∧ MkB V p = false
  zero : ∀ p ∈ ps, V' p = zs 512
  other : ∀ q, q < n → ownN n ≤ q → q ∉ ps → V' q = V q
  nd : ps.Nodup
theorem Tkn.ok {n : Nat} {V : Pages} {ps : List Nat} {V' : Pages} (h : Tkn n V ps V') (sp : Sp n V) (hl : ∀ q, q < n → (V q).length = 512) : TknOk n V ps V' := by
  induction h with
  | nil => exact ⟨sp, hl, fun k _ => by simp, fun p hp => (nomatch hp), fun p hp => (nomatch hp), fun q _ _ _ => rfl, List.nodup_nil⟩
  | @snoc ps V1 p _ lo ih =>
    have k := ih
    have hp := lo.1
    have ho := k.sp.free lo.2.1
    have hm : 1 + p / 4096 < n := by
      have := own_gt hp
      have : ownN n ≤ n := by
        have := Nat.lt_of_le_of_lt ho hp
        omega
      omega
    have hb := k.bits p hp
    rw [lo.2.1] at hb
    have hb2 : MkB V p = false ∧ decide (p ∈ ps) = false := by
      have := hb.symm
      rwa [Bool.or_eq_false_iff] at this
    have hnp : p ∉ ps := of_decide_eq_false hb2.2
    have hl1 := k.len _ hm
    refine ⟨k.sp.take hp ho hl1, fun q hq => ?_, fun q hq => ?_, fun q hq => ?_, fun q hq => ?_, fun q hq hoq hn => ?_, ?_⟩
    · by_cases h1 : q = p
      · rw [h1, takeV_self hp ho]
        exact List.length_replicate
      · by_cases h2 : q = 1 + p / 4096
        · unfold takeV bitV
          rw [h2, setPg_at, List.length_set]
          have : setPg V1 p (zs 512) (1 + p / 4096) = V1 (1 + p / 4096) := by unfold setPg; rw [if_neg (by omega)]
          rw [this]
          exact hl1
        · rw [takeV_own hp ho h1 h2]
          exact k.len q hq
    · rw [takeV_bit hp ho hq hl1, k.bits q hq, Bool.or_assoc, ← Bool.decide_or]
      congr 1
      simp
    · rcases List.mem_append.1 hq with h1 | h1
      · exact k.free q h1
      · rw [List.mem_singleton.1 h1]
        exact ⟨hp, ho, hb2.1⟩
    · rcases List.mem_append.1 hq with h1 | h1
      · have hf := k.free q h1
        have h2 : q ≠ p := fun e => hnp (e ▸ h1)
        have h3 : q ≠ 1 + p / 4096 := by
          have := own_gt hp
          omega
        rw [takeV_own hp ho h2 h3]
        exact k.zero q h1
      · rw [List.mem_singleton.1 h1]
        exact takeV_self hp ho
    · have h2 : q ≠ p := fun e => hn (by simp [e])
      have h3 : q ≠ 1 + p / 4096 := by
        have := own_gt hp
        omega
      rw [takeV_own hp ho h2 h3]
      exact k.other q hq hoq (fun e => hn (by simp [e]))
    · rw [List.nodup_append]
      refine ⟨k.nd, by simp, fun a ha b hb => ?_⟩
      rw [List.mem_singleton.1 hb]
      exact fun e => hnp (e ▸ ha)
def intsV (ps : List Nat) : List Value := ps.map fun q : Nat => Value.int .i64 (q : Int)
def TakenR (w0 w' : World) (bp : Nat) (K : KL) (nb : Nat) (m : Mst) (U : Pages) (b : Bk) (H : List Ch) (V : Pages) (N c : Nat) (v : Value) (r : Int) : Prop :=
  (r = 5 ∧ v = .slice none 0 0 ∧ ((∃ ps V1, ps.length < N ∧ Tkn b.x.pages V ps V1 ∧ NoneF V1 b.x.pages) ∨ capN b < phN b H + 35 + ((N * (c + 97) + c : Nat) : Int)) ∧ ∃ b' H' V', Did w0 w' bp K nb m U b H V' ((N * (c + 97) : Nat) : Int) b' H') ∨ (r = 0 ∧ ∃ ps V' KR b' H', ps.length = N ∧ Tkn b.x.pages V ps V' ∧ RowK w0.heap.size 3 v (intsV ps) KR ∧ Dj KR K ∧ Did w0 w' bp (KR ++ K) nb m U b H V' ((N * (c + 97) : Nat) : Int) b' H')
set_option maxHeartbeats 4000000 in
set_option maxRecDepth 100000 in
theorem ntaken_any {w0 w : World} {bp : Nat} {K : KL} {nb : Nat} {m : Mst} {U : Pages} {b : Bk} {H : List Ch} {V : Pages} (h : In w0 w bp K nb m U b H V) (sp : Sp b.x.pages V) (N c : Nat) (hN : N ≤ 1000) (hc : ∀ p, p < b.x.pages → ownN b.x.pages ≤ p → ∀ S : List SpE, S.map (fun e => (e.off, e.off + e.n)) = diffS (V p) (zs 512) → sumN S ≤ (c : Int)) (hP : phN b H + ((N * (c + 97) + c : Nat) : Int) ≤ 380000) :
    Calls Tryz.prog 35 #[.pointer (some ⟨bp, 0, none⟩), .int .i64 (N : Int)] w fun e w' => ∃ v r, e = .returned (.tuple #[v, .int .i64 r]) ∧ Hid (TakenR w0 w' bp K nb m U b H V N c v r) := by
  have HLEN : Hid (∀ q, q < b.x.pages → (V q).length = 512) := hidI (fun q hq => h.len hq)
  have HC := hidI hc
  have HSP := hidI sp
  have HI := hidI h.did
  have HPH := hidI hP
  obtain ⟨i3, hi3, hz3, hs3, hb3⟩ := info3n
  clear hP
  go_enter Tryz.func35, Tryz.ntmps35
  go_wp2_with fail
  go_loopw [6, 7, 8, 10] (fun s6 s7 s8 s10 wr => ∃ j : Nat, s10 = .int .i64 (j : Int) ∧ j ≤ N ∧ Hid (∃ ps V1 KR b1 H1, ps.length = j ∧ Tkn b.x.pages V ps V1 ∧ RowK w0.heap.size 3 s6 (intsV ps) KR ∧ Dj KR K ∧ Did w0 wr bp (KR ++ K) nb m U b H V1 ((j * (c + 97) : Nat) : Int) b1 H1)) (fun _ _ _ s10 _ => N - (intOf s10).toNat)
  case atStart => exact ⟨0, rfl, by omega, hidI ⟨[], V, [], b, H, rfl, .nil V, .inl ⟨rfl, rfl, rfl⟩, fun p hp => (nomatch hp), by simpa using HI.out⟩⟩
  case round =>
    obtain ⟨j, rfl, hj, X⟩ := hrel
    obtain ⟨ps, V1, KR, b1, H1, hl, tk, hrow, dj, D⟩ := X.out
    have hpg := D.tr.pages
    have ok := tk.ok HSP.out HLEN.out
    by_cases hjN : j < N
    · have hmul : (j + 1) * (c + 97) ≤ N * (c + 97) := Nat.mul_le_mul_right _ hjN
      rw [Nat.succ_mul] at hmul
      have hP1 : phN b1 H1 + c ≤ 380000 := by
        have := D.ph
        have := HPH.out
        omega
      have hjN' : ((j : Int) < (N : Int)) := by omega
      rcases low_or V1 b.x.pages with hno | ⟨p, hlo⟩
      · have TX := stake_none D.i (by rw [hpg]; exact ok.sp) (by rw [hpg]; exact hno)
        have HX := hidI (And.intro hl (And.intro tk (And.intro hno (And.intro D hmul))))
        have HJ := hidI hjN
        clear hl tk hrow dj D hpg ok hno hP1 hmul X
        go_wp2_with (go_at_call 82; refine TX.mono ?_; rintro e w2 ⟨rfl, b2, D2⟩)
        go_ret2
        refine ⟨_, _, rfl, hidI (.inl ⟨rfl, rfl, .inl ⟨ps, V1, by have := HX.out.1; have := HJ.out; omega, HX.out.2.1, HX.out.2.2.1⟩, b2, H1, V1, ?_⟩)⟩
        have D3 := HX.out.2.2.2.1.trans D2.out
        exact ⟨D3.i.on (D3.i.ab.less (K' := K) (fun p hp => List.mem_append.2 (.inr hp))), D3.tr, by have := D3.ph; have := HX.out.2.2.2.2; omega⟩
      · have TX := stake_low D.i (by rw [hpg]; exact ok.sp) (p := p) (by rw [hpg]; exact hlo) c (by
          intro S hS
          have hf := ok.sp.free hlo.2.1
          have hnp : p ∉ ps := fun e => by
            have h1 := ok.bits p hlo.1
            rw [hlo.2.1, decide_eq_true e, Bool.or_true] at h1
            cases h1
          rw [ok.other p hlo.1 hf hnp] at hS
          exact HC.out p hlo.1 hf S hS) hP1
        have HX := hidI (And.intro hl (And.intro tk (And.intro hlo (And.intro D (And.intro hmul (And.intro hrow (And.intro dj hP1)))))))
        have HJ := hidI hjN
        clear hl tk hrow dj D hpg ok hlo hP1 hmul X
        have yes : ∀ {q : Nat} {w2 : World}, ((0 : Int) = 5 ∧ (q : Int) = 0 ∧ capN b1 < phN b1 H1 + 35 + c + 97 ∧ ∃ b' H' V', (V' = V1 ∨ V' = setPg V1 q (zs 512)) ∧ Did w0 w2 bp (KR ++ K) nb m U b1 H1 V' c b' H') ∨ ((0 : Int) = 0 ∧ (q : Int) = (q : Int) ∧ ∃ b' H', Did w0 w2 bp (KR ++ K) nb m U b1 H1 (takeV V1 q) (c + 97) b' H') → ∃ b2 H2, Did w0 w2 bp (KR ++ K) nb m U b1 H1 (takeV V1 q) (c + 97) b2 H2 := fun hh => by
          rcases hh with ⟨h1, -⟩ | ⟨-, -, h2⟩
          · cases h1
          · exact h2
        go_wp2_with (first
          | (go_at_call 82
             refine TX.mono ?_
             rintro e w2 ⟨q, r, rfl, Y⟩
             have hr : (r = 5 ∧ q = 0) ∨ (r = 0 ∧ q = (p : Int)) := by
               rcases Y.out with ⟨h1, h2, -⟩ | ⟨h1, h2, -⟩
               · exact .inl ⟨h1, h2⟩
               · exact .inr ⟨h1, h2⟩
             rcases hr with ⟨rfl, rfl⟩ | ⟨rfl, rfl⟩)
          | (obtain ⟨b2, H2, D2⟩ := yes (q := p) Y.out
             have A2 := (D2.i.ab.quiet ((Fr.refl [] w2).alloc (.cells #[.int .i64 (p : Int)] 3)))
             have hZ := heap_alloc_new w2 (.cells #[.int .i64 (p : Int)] 3)
             have hnc : ∀ j u, [Value.int .i64 (p : Int)][j]? = some u → (w2.alloc (.cells #[.int .i64 (p : Int)] 3)).cell? ((⟨w2.heap.size, 0, none⟩ : Addr).add j) = some u := fun j u hu => by
               rw [Addr.add_mid]
               refine (cell_of_row _ w2.heap.size (0 + j) _ _ _ hZ).trans ?_
               rw [Nat.zero_add]
               simpa using hu
             refine wp_appA rfl _ _ rfl Tryz.underlying45 hi3 hz3 hs3 hb3 rfl (by decide) (by decide) HX.out.2.2.2.2.2.1 A2 HX.out.2.2.2.2.2.2.1 ⟨w2.heap.size, 0, none⟩ _ _ [.int .i64 (p : Int)] rfl rfl rfl hnc (fun u hu => by rw [List.mem_singleton.1 hu]; rfl) (by simp) (by have h1 := HX.out.1; have h2 := HJ.out; unfold intsV; rw [List.length_map, h1, List.length_singleton]; omega) (by decide) ?_
             intro g cap w5 KR5 hrow5 hs5 hd5
             have D5 := hidI (And.intro D2 (And.intro hrow5 (And.intro hs5 hd5)))
             clear D2 A2 hZ hnc hrow5 hs5 hd5))
        · go_ret2
          refine ⟨_, _, rfl, hidI (.inl ⟨rfl, rfl, ?_⟩)⟩
          rcases Y.out with ⟨-, -, hcap, b2, H2, V2, -, D2⟩ | ⟨h1, -⟩
          · have D3 := HX.out.2.2.2.1.trans D2
            have hc1 := HX.out.2.2.2.1.tr.cap
            refine ⟨.inr ?_, b2, H2, V2, (⟨D3.i.on (D3.i.ab.less (fun p hp => by simp [hp])), D3.tr, by have := D3.ph; have := HX.out.2.2.2.2.1; omega⟩ : Did _ _ _ _ _ _ _ _ _ _ _ _ _)⟩
            have := HX.out.2.2.2.1.ph
            have := HX.out.2.2.2.2.1
            omega
          · omega
        · have D3 := HX.out.2.2.2.1.trans D5.out.1
          go_roundw
          case rel => exact ⟨j + 1, by go_num, by have := HJ.out; omega, hidI ⟨ps ++ [p], _, KR5, b2, H2, by rw [List.length_append, HX.out.1]; rfl, .snoc HX.out.2.1 HX.out.2.2.1, by
            have := D5.out.2.1
            unfold intsV at this ⊢
            rw [List.map_append]
            simpa using this, D5.out.2.2.2, (⟨D3.i.on D5.out.2.2.1, D3.tr, by have := D3.ph; rw [Nat.succ_mul]; omega⟩ : Did _ _ _ _ _ _ _ _ _ _ _ _ _)⟩⟩
          case measure => simp [intOf]; have := HJ.out; omega
    · obtain rfl : j = N := by omega
      have hjN' : ¬ ((j : Int) < (j : Int)) := by omega
      have X2 := hidI hrow
      clear hrow
      go_wp2_with fail
      go_ret2
      exact ⟨_, _, rfl, hidI (.inr ⟨rfl, ps, V1, KR, b1, H1, hl, tk, X2.out, dj, D⟩)⟩
end Go.Proofs.YthajipigppndgaaGreat

namespace Go.Proofs.YthajipigppndgaaGreat
open Go.RowKit Go.Maps
def LkRow (w : World) (g N : Nat) (G : Nat → Nat → Value) : Prop := ∃ cur, w.heap[g]? = some (.cells cur 79) ∧ cur.size = 5 * N ∧ ∀ j k, j < N → k < 5 → cur[5 * j + k]? = some (G j k)
theorem LkRow.cell {w : World} {g N : Nat} {G : Nat → Nat → Value} (h : LkRow w g N G) {j k : Nat} (hj : j < N) (hk : k < 5) : w.cell? ⟨g, 5 * j + k, none⟩ = some (G j k) := by
  obtain ⟨cur, h1, h2, h3⟩ := h
  exact (cell_of_row w g _ _ _ _ h1).trans (h3 j k hj hk)
theorem LkRow.frozen {w : World} {g N : Nat} {G : Nat → Nat → Value} (h : LkRow w g N G) (i : Nat) : w.frozen? ⟨g, i, none⟩ = false := by
  obtain ⟨cur, h1, h2, h3⟩ := h
  exact frozen_of_row w g i _ _ h1
theorem LkRow.kept {w w' : World} {g N : Nat} {G : Nat → Nat → Value} {L : List Nat} (h : LkRow w g N G) (f : Fr L w w') (hg : g ∉ L) : LkRow w' g N G := by
  obtain ⟨cur, h1, h2, h3⟩ := h
  exact ⟨cur, f.same hg h1, h2, h3⟩
theorem LkRow.lt {w : World} {g N : Nat} {G : Nat → Nat → Value} (h : LkRow w g N G) : g < w.heap.size := by
  obtain ⟨cur, h1, h2, h3⟩ := h
  exact (Array.getElem?_eq_some_iff.1 h1).1
theorem LkRow.congr {w : World} {g N : Nat} {G G' : Nat → Nat → Value} (h : LkRow w g N G) (e : ∀ j k, j < N → k < 5 → G' j k = G j k) : LkRow w g N G' := by
  obtain ⟨cur, h1, h2, h3⟩ := h
  exact ⟨cur, h1, h2, fun j k hj hk => by rw [e j k hj hk]; exact h3 j k hj hk⟩
theorem LkRow.set1 {w : World} {g N : Nat} {G : Nat → Nat → Value} (h : LkRow w g N G) {j k : Nat} (hj : j < N) (hk : k < 5) (v : Value) : LkRow (w.setCell ⟨g, 5 * j + k, none⟩ v) g N (fun j' k' => if j' = j ∧ k' = k then v else G j' k') ∧ Fr [g] w (w.setCell ⟨g, 5 * j + k, none⟩ v) := by
  obtain ⟨cur, h1, h2, h3⟩ := h
  refine ⟨⟨_, heap_setCell_same w g (5 * j + k) _ _ v h1, by simpa using h2, fun j' k' hj' hk' => ?_⟩, (Fr.refl [g] w).setCell _ _ (by simp)⟩
  show _ = some (if j' = j ∧ k' = k then v else G j' k')
  by_cases e : j' = j ∧ k' = k
  · obtain ⟨rfl, rfl⟩ := e
    rw [if_pos ⟨rfl, rfl⟩, Array.getElem?_setIfInBounds_self_of_lt (by omega)]
  · rw [if_neg e, Array.getElem?_setIfInBounds_ne (by omega)]
    exact h3 j' k' hj' hk'
theorem LkRow.range {w : World} {g N : Nat} {G : Nat → Nat → Value} (h : LkRow w g N G) {j : Nat} (hj : j < N) {cs : List Value} (hc : cs.length = 5) (e : ∀ k, k < 5 → cs[k]? = some (G j k)) : w.rangeAt g (5 * j) cs := fun k v hv => by
  have hk : k < 5 := by
    have := (List.getElem?_eq_some_iff.1 hv).1
    omega
  rw [h.cell hj hk, ← e k hk, hv]
theorem LkRow.there {w : World} {g N : Nat} {G : Nat → Nat → Value} (h : LkRow w g N G) {j : Nat} (hj : j < N) : w.there g (5 * j) 5 := fun k hk => ⟨by rw [h.cell hj hk]; rfl, h.frozen _⟩
theorem LkRow.set5 {w : World} {g N : Nat} {G : Nat → Nat → Value} (h : LkRow w g N G) {j : Nat} (hj : j < N) (v0 v1 v2 v3 v4 : Value) : LkRow (w.setCells g (5 * j) [v0, v1, v2, v3, v4]) g N (fun j' k' => if j' = j then [v0, v1, v2, v3, v4].getD k' undef else G j' k') ∧ Fr [g] w (w.setCells g (5 * j) [v0, v1, v2, v3, v4]) := by
  have h0 := h.set1 hj (k := 0) (by omega) v0
  have h1 := h0.1.set1 hj (k := 1) (by omega) v1
  have h2 := h1.1.set1 hj (k := 2) (by omega) v2
  have h3 := h2.1.set1 hj (k := 3) (by omega) v3
  have h4 := h3.1.set1 hj (k := 4) (by omega) v4
  refine ⟨?_, (((h0.2.trans h1.2).trans h2.2).trans h3.2).trans h4.2⟩
  refine LkRow.congr (w := w.setCells g (5 * j) [v0, v1, v2, v3, v4]) h4.1 (fun j' k' hj' hk' => ?_)
  by_cases e : j' = j
  · subst e
    rcases (by omega : k' = 0 ∨ k' = 1 ∨ k' = 2 ∨ k' = 3 ∨ k' = 4) with rfl | rfl | rfl | rfl | rfl <;> simp
  · simp [e]
def szOf (n j : Nat) : Nat := min 502 (n - 502 * j)
def lkG (ps : List Nat) (n : Nat) (adf : Nat → Option Addr) (cf : Nat → Nat) (k0 : Nat) (nx : Nat → Nat) (j k : Nat) : Value :=
  [Value.int .i64 (ps.getD j 0 : Nat), .int .u8 (if j = 0 then k0 else 65 : Nat), .int .i64 (nx j : Nat), .int .i64 ((n - 502 * j - szOf n j : Nat) : Int), .slice (adf j) (szOf n j) (cf j)].getD k undef
theorem info79 : ∃ i, Tryz.prog.info? 79 = some i ∧ i.zero = some (.agg noLink) ∧ i.size = 5 := by
  have h : (Tryz.prog.info? 79).map (fun i => (i.zero, i.size)) = some (some (.agg noLink), 5) := by kernel_rfl
  obtain ⟨i, hi, hx⟩ := Option.map_eq_some_iff.1 h
  simp only [Prod.mk.injEq] at hx
  exact ⟨i, hi, hx.1, hx.2⟩
theorem info79b : (Tryz.prog.info? 79).map (·.bytes) = some 56 := by kernel_rfl
theorem made_noLink (N j k : Nat) (hj : j < N) (hk : k < 5) : (madeCells (Value.agg noLink).cells (N * 5))[5 * j + k]? = some (noLink.toList.getD k undef) := by
  have h1 : 5 * j + k < N * 5 := by omega
  have h2 : (5 * j + k) % 5 = k := by omega
  have h3 : (Value.agg noLink).cells.size = 5 := rfl
  unfold madeCells
  rw [Array.getElem?_map, Array.getElem?_range, if_pos h1, Option.map_some, h3, h2]
  rcases (by omega : k = 0 ∨ k = 1 ∨ k = 2 ∨ k = 3 ∨ k = 4) with rfl | rfl | rfl | rfl | rfl <;> rfl
theorem op_makeLk {o : Oper} {a : Act} {w : World} {K : Act → World → Prop} {Q : Exit → Act → World → Prop} (x y : Operand) (ho : o.op = .makeSlice 76 x y) (N : Nat) (hN : N ≤ 1000) (hx : a.eval x = .int .i64 (N : Int)) (hy : a.eval y = .int .i64 (N : Int))
    (h : ∀ w' g, w.heap.size ≤ g → LkRow w' g N (fun _ k => noLink.toList.getD k undef) → Fr [] w w' → K (a.put o.dst (.slice (some ⟨g, 0, none⟩) N N)) w') : Oper.wp Tryz.prog o a w K Q := by
  obtain ⟨i, hi, hz, hs⟩ := info79
  have hb : i.bytes = 56 := by
    have := info79b
    rw [hi] at this
    simpa using this
  have hrun := run_makeSlice (P := Tryz.prog) w 76 79 i (.agg noLink) Tryz.underlying76 hi hz .i64 .i64 (N : Int) (N : Int) (by omega) (by omega) (by rw [hs]; omega) (by rw [hb]; omega) (by omega)
  rw [hs] at hrun
  unfold Oper.wp execOp
  simp only [Int.toNat_natCast] at hrun
  simp [ho, hx, hy, hrun, Result.andThen]
  exact h _ _ (Nat.le_refl _) ⟨_, heap_alloc_new w _, by rw [size_madeCells]; omega, fun j k hj hk => made_noLink N j k hj hk⟩ ((Fr.refl _ _).alloc _)
theorem wp_makeLk {ops : Array Oper} {rest : List Oper} {o : Oper} {a : Act} {w : World} {Q : Exit → Act → World → Prop} (hgd : o.guard = none) (x y : Operand) (ho : o.op = .makeSlice 76 x y) (N : Nat) (hN : N ≤ 1000) (hx : a.eval x = .int .i64 (N : Int)) (hy : a.eval y = .int .i64 (N : Int))
    (h : ∀ w' g, w.heap.size ≤ g → LkRow w' g N (fun _ k => noLink.toList.getD k undef) → Fr [] w w' → wpList Tryz.prog ops Q rest (a.put o.dst (.slice (some ⟨g, 0, none⟩) N N)) w') : wpList Tryz.prog ops Q (o :: rest) a w :=
  wpList_plain hgd fun _ hK => op_makeLk x y ho N hN hx hy (fun w' g h1 h2 h3 => hK _ _ (h w' g h1 h2 h3))
def GGi (n : Nat) (ps : List Nat) (adf : Nat → Option Addr) (cf : Nat → Nat) (i j k : Nat) : Value := if j < i then lkG ps n adf cf 65 (fun j => if j + 1 < i then ps.getD (j + 1) 0 else 0) j k else noLink.toList.getD k undef
def LdI (w wr : World) (g db n N : Nat) (data : List UInt8) (ps : List Nat) (i off : Nat) : Prop := ∃ adf cf, LkRow wr g N (GGi n ps adf cf i) ∧ BytesAt wr (some ⟨db, off, none⟩) (data.drop (502 * i)) ∧ (∀ j, j < i → ∃ o, adf j = some ⟨db, o, none⟩ ∧ BytesAt wr (adf j) ((data.drop (502 * j)).take (szOf n j))) ∧ Fr [] w wr
theorem BytesAt.takeN {w : World} {ad : Option Addr} {l : List UInt8} (h : BytesAt w ad l) (k : Nat) : BytesAt w ad (l.take k) := fun j v hv => h j v (by
  simp only [arr, List.getElem?_map, List.getElem?_take] at hv ⊢
  split at hv
  · exact hv
  · cases hv)
theorem BytesAt.dropN {w : World} {b off : Nat} {l : List UInt8} (h : BytesAt w (some ⟨b, off, none⟩) l) (k : Nat) : BytesAt w (some ⟨b, off + k, none⟩) (l.drop k) := fun j v hv => by
  simp only [arr, List.getElem?_map, List.getElem?_drop] at hv
  obtain ⟨b', o', he, hc⟩ := h (k + j) v (by simpa [arr] using hv)
  cases he
  exact ⟨b, off + k, rfl, by rw [Nat.add_assoc]; exact hc⟩
theorem ldI_step {w wr w6 : World} {g db n N : Nat} {data : List UInt8} {ps : List Nat} {i off c q m sz rr : Nat} {adf : Nat → Option Addr} {cf : Nat → Nat} {G' : Nat → Nat → Value} (hd : data.length = n) (hm : n - 502 * i = m) (hsz : szOf n i = sz) (hszm : sz = min 502 m) (hrr : m - sz = rr) (hmc : m ≤ c) (hq : ps.getD i 0 = q) (hdb : db ≠ g)
    (B : BytesAt wr (some ⟨db, off, none⟩) (data.drop (502 * i))) (P : ∀ j, j < i → ∃ o, adf j = some ⟨db, o, none⟩ ∧ BytesAt wr (adf j) ((data.drop (502 * j)).take (szOf n j))) (F : Fr [] w wr) (hg : w.heap.size ≤ g) (f : Fr [g] wr w6)
    (R6 : LkRow w6 g N G') (hG : ∀ j k, j < N → k < 5 → G' j k = if j = i then [Value.int .i64 (q : Int), .int .u8 65, .int .i64 0, .int .i64 (rr : Int), .slice (some ⟨db, off, none⟩) sz c].getD k undef else if j + 1 = i ∧ k = 2 then .int .i64 (q : Int) else GGi n ps adf cf i j k) : LdI w w6 g db n N data ps (i + 1) (if c = sz then off else off + sz) := by
  have hk : ∀ o, ∀ b o', (some (⟨db, o, none⟩ : Addr)) = some ⟨b, o', none⟩ → b ∉ [g] := fun o b o' e => by
    cases e
    simpa using hdb
  refine ⟨fun j => if j = i then some ⟨db, off, none⟩ else adf j, fun j => if j = i then c else cf j, R6.congr (fun j k hj hk => ?_), ?_, fun j hj => ?_, F.then f (fun x hx hm => by
    have e := List.mem_singleton.1 hm
    have := F.size
    omega)⟩
  · rw [hG j k hj hk]
    subst hq hrr hsz
    rcases (by omega : j < i ∨ j = i ∨ i < j) with h1 | rfl | h1
    · have a1 : j < i + 1 := by omega
      have a2 : ¬ j = i := by omega
      by_cases e3 : j + 1 = i
      · have a3 : ¬ j + 1 < i := by omega
        have a4 : j + 1 < i + 1 := by omega
        rcases (by omega : k = 0 ∨ k = 1 ∨ k = 2 ∨ k = 3 ∨ k = 4) with rfl | rfl | rfl | rfl | rfl <;> simp [GGi, lkG, h1, a1, a2, e3]
      · have a3 : j + 1 < i := by omega
        have a4 : j + 1 < i + 1 := by omega
        rcases (by omega : k = 0 ∨ k = 1 ∨ k = 2 ∨ k = 3 ∨ k = 4) with rfl | rfl | rfl | rfl | rfl <;> simp [GGi, lkG, h1, a1, a2, e3, a3]
    · rcases (by omega : k = 0 ∨ k = 1 ∨ k = 2 ∨ k = 3 ∨ k = 4) with rfl | rfl | rfl | rfl | rfl <;> simp [GGi, lkG, hm]
    · have a1 : ¬ j < i + 1 := by omega
      have a2 : ¬ j = i := by omega
      have a3 : ¬ j + 1 = i := by omega
      have a4 : ¬ j < i := by omega
      rcases (by omega : k = 0 ∨ k = 1 ∨ k = 2 ∨ k = 3 ∨ k = 4) with rfl | rfl | rfl | rfl | rfl <;> simp [GGi, a1, a2, a3, a4]
  · have B6 := B.kept f (hk off)
    by_cases hr : 0 < m - sz
    · have h5 : sz = 502 := by omega
      rw [if_neg (by omega), h5]
      have := B6.dropN 502
      rw [List.drop_drop] at this
      rw [Nat.mul_add, Nat.mul_one]
      exact this
    · have : data.drop (502 * (i + 1)) = [] := List.drop_eq_nil_of_le (by omega)
      rw [this]
      exact BytesAt.nil _ _
  · by_cases e : j = i
    · subst e
      refine ⟨off, if_pos rfl, ?_⟩
      dsimp only
      rw [if_pos rfl]
      exact (B.kept f (hk off)).takeN _
    · obtain ⟨o, ho, hb⟩ := P j (by omega)
      refine ⟨o, by dsimp only; rw [if_neg e]; exact ho, ?_⟩
      dsimp only
      rw [if_neg e]
      rw [ho] at hb ⊢
      exact hb.kept f (hk o)
set_option maxHeartbeats 4000000 in
set_option maxRecDepth 100000 in
theorem nlaid_any (w : World) (db doff n dc : Nat) (data : List UInt8) (hd : data.length = n) (hb : BytesAt w (some ⟨db, doff, none⟩) data) (hn : 0 < n) (hn2 : n ≤ 65536) (hdc : n ≤ dc) (ps : List Nat) (N : Nat) (hN : ps.length = N) (hN2 : N = (n + 501) / 502) (pg pc : Nat) (cur : Array Value) (hpg : w.heap[pg]? = some (.cells cur 3)) (hcur : cur.toList.take N = intsV ps) :
    Calls Tryz.prog 36 #[.slice (some ⟨db, doff, none⟩) n dc, .slice (some ⟨pg, 0, none⟩) N pc] w fun e w' => ∃ g adf cf, e = .returned (.slice (some ⟨g, 0, none⟩) N N) ∧ Hid (LkRow w' g N (lkG ps n adf cf 64 (fun j => if j + 1 < N then ps.getD (j + 1) 0 else 0)) ∧ (∀ j, j < N → ∃ o, adf j = some ⟨db, o, none⟩ ∧ BytesAt w' (adf j) ((data.drop (502 * j)).take (szOf n j))) ∧ w.heap.size ≤ g ∧ Fr [] w w') := by
  have hcell : Hid (∀ (w' : World), Fr [] w w' → ∀ j, j < N → w'.cell? ⟨pg, j, none⟩ = some (.int .i64 (ps.getD j 0 : Nat))) := hidI (fun w' f j hj => by
    refine (cell_of_row w' pg j _ _ _ (f.same (by simp) hpg)).trans ?_
    have h1 : (cur.toList.take N)[j]? = (intsV ps)[j]? := by rw [hcur]
    rw [List.getElem?_take, if_pos hj] at h1
    rw [← Array.getElem?_toList, h1]
    unfold intsV
    rw [List.getElem?_map, List.getD_eq_getElem?_getD, List.getElem?_eq_getElem (by omega)]
    rfl)
  have HB := hidI hb
  have HD := hidI hd
  have hN0 : 0 < N := by omega
  have hN1 : N ≤ 1000 := by omega
  have HN := hidI (And.intro hN hN2)
  clear hpg hcur hb hd hN hN2
  go_enter Tryz.func36, Tryz.ntmps36
  go_wp2_with (first
    | (refine wp_makeLk rfl _ _ rfl N hN1 rfl rfl ?_
       intro w1 g hg R1 f1))
  have H0 := hidI (show LdI w w1 g db n N data ps 0 doff from ⟨fun _ => none, fun _ => 0, R1.congr (fun j k _ _ => by unfold GGi; rw [if_neg (by omega)]), by simpa using HB.out.kept f1 (by intro b off _; simp), fun j hj => absurd hj (by omega), f1⟩)
  have HG := hidI hg
  have HDB : Hid (db ≠ g) := hidI (by
    have h1 : 0 < data.length := by have := HD.out; omega
    obtain ⟨b, o, he, hc⟩ := HB.out 0 (.int .u8 (data[0]).toNat) (by simp [arr, h1])
    cases he
    have h1 : db < w.heap.size := by
      unfold World.cell? at hc
      cases hh : w.heap[db]? with
      | none => simp [hh] at hc
      | some o => exact (Array.getElem?_eq_some_iff.1 hh).1
    omega)
  clear R1 f1 hg
  go_loopw [0, 6, 7, 8, 14] (fun s0 s6 s7 s8 s14 wr => ∃ i off c : Nat, s14 = .int .i64 (i : Int) ∧ s0 = .slice (some ⟨db, off, none⟩) (n - 502 * i) c ∧ i ≤ N ∧ n - 502 * i ≤ c ∧ Hid (LdI w wr g db n N data ps i off)) (fun _ _ _ _ s14 _ => N - (intOf s14).toNat)
  case atStart => exact ⟨0, doff, dc, rfl, rfl, by omega, by omega, H0⟩
  case round =>
    obtain ⟨i, off, c, rfl, rfl, hi, hc, X⟩ := hrel
    by_cases hiN : i < N
    · have hm0 : 0 < n - 502 * i := by have := HN.out.2; omega
      have hiN' : (i : Int) < (N : Int) := by omega
      obtain ⟨adf, cf, R, B, P, F⟩ := X.out
      have cP := hcell.out wr F i hiN
      have hth := R.there hiN
      obtain ⟨q, hq⟩ : ∃ q, ps.getD i 0 = q := ⟨_, rfl⟩
      rw [hq] at cP
      have HX := hidI (And.intro R (And.intro B (And.intro P (And.intro F hq))))
      clear R B P F X
      obtain ⟨m, hm⟩ : ∃ m, n - 502 * i = m := ⟨_, rfl⟩
      obtain ⟨sz, hsz⟩ : ∃ sz, szOf n i = sz := ⟨_, rfl⟩
      have hszm : sz = min 502 m := by rw [← hsz, ← hm]; rfl
      have hsm : sz ≤ m ∧ 0 < sz := by omega
      have hmin : min (502 : Int) (m : Int) = (sz : Int) := by omega
      obtain ⟨rr, hrr⟩ : ∃ rr, m - sz = rr := ⟨_, rfl⟩
      have hmm : m ≤ 65536 := by omega
      have hwr : wrap64 ((m : Int) - (sz : Int)) = (rr : Int) := by
        have e : (m : Int) - (sz : Int) = (rr : Int) := by omega
        rw [e]
        unfold wrap64
        omega
      rw [hm] at hc hm0 ⊢
      have HM := hidI (And.intro hm (And.intro hsz (And.intro hszm (And.intro hrr hmm))))
      have hszc : sz ≤ c := by omega
      clear hm hsz hrr hszm hmm
      by_cases h0 : i = 0
      · subst h0
        go_upto_region 7 with (first
          | (refine wpList_store_mid rfl _ _ _ rfl g (5 * 0) (lkV q 65 0 rr (some ⟨db, off, none⟩) sz c) rfl rfl hth sizeLk (lkV_one _ _ _ _ _ _ _) ?_
             have R6 := hidI (HX.out.1.set5 hiN (.int .i64 (q : Int)) (.int .u8 65) (.int .i64 0) (.int .i64 (rr : Int)) (.slice (some ⟨db, off, none⟩) sz c))
             obtain ⟨w6, hw6⟩ : ∃ w6, wr.setCells g (5 * 0) (lkV q 65 0 rr (some ⟨db, off, none⟩) sz c).toList = w6 := ⟨_, rfl⟩
             rw [hw6]
             have R7 := hidI (show LkRow w6 g N _ ∧ Fr [g] wr w6 from hw6 ▸ R6.out)
             clear R6 hw6 hth cP))
        go_wp2_with fail
        refine ⟨⟨1, _, c - sz, rfl, ?_, by omega, by have := HM.out; omega, hidI (ldI_step (cf := cf) HD.out HM.out.1 HM.out.2.1 HM.out.2.2.1 HM.out.2.2.2.1 (by omega) HX.out.2.2.2.2 HDB.out HX.out.2.1 HX.out.2.2.1 HX.out.2.2.2.1 HG.out R7.out.2 R7.out.1 (fun j k _ _ => ?_))⟩, by simp [intOf]; omega⟩
        · have := HM.out
          have e : m - sz = n - 502 * 1 := by omega
          rw [e]
          by_cases hcs : c = sz <;> simp [hcs]
        · by_cases e : j = 0
          · rw [if_pos e, if_pos e]
          · rw [if_neg e, if_neg e, if_neg (fun x => by omega)]
      · obtain ⟨j, rfl⟩ : ∃ j, i = j + 1 := ⟨i - 1, by omega⟩
        clear h0
        go_upto_region 7 with (first
          | (refine wpList_store_mid rfl _ _ _ rfl g ((j + 1) * 5) (lkV q 65 0 rr (some ⟨db, off, none⟩) sz c) rfl rfl (by rw [Nat.mul_comm]; exact hth) sizeLk (lkV_one _ _ _ _ _ _ _) ?_
             have R6 := HX.out.1.set5 hiN (.int .i64 (q : Int)) (.int .u8 65) (.int .i64 0) (.int .i64 (rr : Int)) (.slice (some ⟨db, off, none⟩) sz c)
             rw [Nat.mul_comm] at R6
             obtain ⟨w6, hw6⟩ : ∃ w6, wr.setCells g ((j + 1) * 5) (lkV q 65 0 rr (some ⟨db, off, none⟩) sz c).toList = w6 := ⟨_, rfl⟩
             rw [hw6]
             have R7 := hidI (show LkRow w6 g N _ ∧ Fr [g] wr w6 from hw6 ▸ R6)
             have cN := R7.out.1.cell (j := j) (k := 2) (by omega) (by omega)
             have gN := R7.out.1.frozen (j * 5 + 2)
             rw [Nat.mul_comm 5 j] at cN
             have R8 := hidI (R7.out.1.set1 (j := j) (k := 2) (by omega) (by omega) (.int .i64 (q : Int)))
             clear R6 hw6 hth cP))
        go_wp2_with fail
        rw [Nat.mul_comm 5 j] at R8
        refine ⟨⟨j + 2, _, c - sz, rfl, ?_, by omega, by have := HM.out; omega, hidI (ldI_step (cf := cf) HD.out HM.out.1 HM.out.2.1 HM.out.2.2.1 HM.out.2.2.2.1 (by omega) HX.out.2.2.2.2 HDB.out HX.out.2.1 HX.out.2.2.1 HX.out.2.2.2.1 HG.out (R7.out.2.trans R8.out.2) R8.out.1 (fun j' k _ _ => ?_))⟩, by simp [intOf]; omega⟩
        · have := HM.out
          have e : m - sz = n - 502 * (j + 2) := by omega
          rw [e]
          by_cases hcs : c = sz <;> simp [hcs]
        · by_cases e : j' = j + 1
          · have e2 : ¬ (j' = j ∧ k = 2) := fun x => by omega
            rw [if_neg e2, if_pos e, if_pos e]
          · by_cases e2 : j' = j ∧ k = 2
            · have e3 : j' + 1 = j + 1 ∧ k = 2 := ⟨by omega, e2.2⟩
              rw [if_pos e2, if_neg e, if_pos e3]
            · have e3 : ¬ (j' + 1 = j + 1 ∧ k = 2) := fun x => e2 ⟨by omega, x.2⟩
              rw [if_neg e2, if_neg e, if_neg e, if_neg e3]
    · obtain rfl : i = N := by omega
      obtain ⟨adf, cf, R, B, P, F⟩ := X.out
      have hiN' : ¬ ((i : Int) < (i : Int)) := by omega
      have c1 : wr.cell? ⟨g, 1, none⟩ = some _ := R.cell (j := 0) (k := 1) hN0 (by omega)
      have g1 := R.frozen 1
      have HX := hidI (And.intro R (And.intro P (And.intro F (R.set1 (j := 0) (k := 1) hN0 (by omega) (.int .u8 64)))))
      have h0i : (0 : Int) < (i : Int) := by omega
      clear R P F X B
      go_wp2_with fail
      go_ret
      refine ⟨g, rfl, adf, cf, hidI ⟨?_, fun j hj => ?_, HG.out, HX.out.2.2.1.then HX.out.2.2.2.2 (fun x hx hm => by
        have e := List.mem_singleton.1 hm
        have := HG.out
        omega)⟩⟩
      · refine HX.out.2.2.2.1.congr (fun j k hj hk => ?_)
        by_cases e : j = 0 ∧ k = 1
        · obtain ⟨rfl, rfl⟩ := e
          rfl
        · rw [if_neg e]
          unfold GGi lkG
          rw [if_pos hj]
          by_cases e0 : j = 0
          · subst e0
            rcases (by omega : k = 0 ∨ k = 2 ∨ k = 3 ∨ k = 4) with rfl | rfl | rfl | rfl <;> rfl
          · rw [if_neg e0, if_neg e0]
            simp only [List.getD_eq_getElem?_getD]
      · obtain ⟨o, ho, hb⟩ := HX.out.2.1 j hj
        refine ⟨⟨o, ho⟩, ?_⟩
        rw [ho] at hb ⊢
        exact hb.kept HX.out.2.2.2.2 (fun b o' e => by cases e; simpa using HDB.out)
end Go.Proofs.YthajipigppndgaaGreat

