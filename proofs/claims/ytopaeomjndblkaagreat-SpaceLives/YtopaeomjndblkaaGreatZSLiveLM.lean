/-
  SpaceLives' law.
-/
import Derived.Test.YtopaeomjndblkaaGreatZSLv9M
import Derived.Test.YtopaeomjndblkaaGreatY50Z
import Derived.Deep.LoopGhost
import Derived.Deep.CutRange
import Derived.BigQuiet
namespace Go.Proofs.YtopaeomjndblkaaGreat
open Go.RowKit Go.Maps

section
variable {w0 w : World} {bp : Nat} {b : Bk} {K : List (Nat × Obj)} (h : Ab w0 w bp b K)
include h
theorem stake_out (hp : 0 < b.x.pages) (hs : b.t.st = 0) : Calls Tryz.prog 62 #[.pointer (some ⟨bp, 0, none⟩)] w fun e w' => e = .returned (.tuple #[.int .i64 0, .int .i64 7]) ∧ w' = w := by
  have WX := swithin_out h hp hs
  clear h
  go_enter Tryz.func62, Tryz.ntmps62
  go_wp2_with (go_at_call 154; refine WX.mono ?_; rintro e wz ⟨rfl, hz⟩; rw [hz]; clear hz)
  go_ret2
  exact ⟨rfl, rfl⟩
theorem sgive_out (hp : 0 < b.x.pages) (hs : b.t.st = 0) (k : Int) : Calls Tryz.prog 63 #[.pointer (some ⟨bp, 0, none⟩), .int .i64 k] w fun e w' => e = .returned (.int .i64 7) ∧ w' = w := by
  have WX := swithin_out h hp hs
  clear h
  go_enter Tryz.func63, Tryz.ntmps63
  go_wp2_with (go_at_call 154; refine WX.mono ?_; rintro e wz ⟨rfl, hz⟩; rw [hz]; clear hz)
  go_ret
  exact ⟨rfl, rfl⟩
end
/-- What a step reads. -/
structure Cs (w : World) (gb bp sb d : Nat) (pg wh : Int) : Prop where
  g0 : w.cell? ⟨gb, 0, none⟩ = some (.pointer (some ⟨bp, 0, none⟩))
  g1 : w.cell? ⟨gb, 1, none⟩ = some (.pointer (some ⟨sb, 0, none⟩))
  d1 : w.cell? ⟨d, 1, none⟩ = some (.int .i64 pg)
  d2 : w.cell? ⟨d, 2, none⟩ = some (.int .i64 wh)
/-- Behind both calls: alike; or the log was full, and the transaction is to be undone. -/
def Aft (w0 w : World) (gb bp nb : Nat) (p s a r c f : Int) : Prop :=
  (r = 5 ∧ f ≠ 5 ∧ ∃ sb vb x y K m U b H V, LvA w0 w gb bp sb vb nb x y p s K m U b H V) ∨ (r = f ∧ a = c ∧ Lv w0 w gb bp nb p s)
section
variable {K : List (Nat × Obj)} {w0 w w1 w2 : World} {gb bp sb vb nb d : Nat} {x y x' : Rf} {p s op pg wh c : Int} {m : Mst} {U V V' : Pages} {b b' : Bk} {H H' : List Ch} {B : Nat}
theorem Rg.cs (R : Rg K B gb bp sb vb x y) (kp : ∀ q ∈ K, w.heap[q.1]? = some q.2) (hd : w.heap[d]? = some (Obj.cells #[.int .i64 op, .int .i64 pg, .int .i64 wh] 119)) : Cs w gb bp sb d pg wh :=
  ⟨cell_of_row w gb 0 _ _ _ (R.gAt kp), cell_of_row w gb 1 _ _ _ (R.gAt kp), cell_of_row w d 1 _ _ _ hd, cell_of_row w d 2 _ _ _ hd⟩
theorem LvI.sAt1 (h : LvI w0 w gb bp sb vb nb x y p s K m U b H V) (D : Did w0 w1 bp K nb m U b H V' c b' H') : RfAt w1 sb x := h.rg.sAt (fun q hq => (D.i.ab.kp q hq).1)
theorem LvI.cs1 (h : LvI w0 w gb bp sb vb nb x y p s K m U b H V) (hd : (d, Obj.cells #[.int .i64 op, .int .i64 pg, .int .i64 wh] 119) ∈ K) (D : Did w0 w1 bp K nb m U b H V' c b' H') : Cs w1 gb bp sb d pg wh :=
  h.rg.cs (fun q hq => (D.i.ab.kp q hq).1) (D.i.ab.kp _ hd).1
/-- Behind both calls. -/
theorem LvI.fin (h : LvI w0 w gb bp sb vb nb x y p s K m U b H V) (hd : (d, Obj.cells #[.int .i64 op, .int .i64 pg, .int .i64 wh] 119) ∈ K) (D : Did w0 w1 bp K nb m U b H V' c b' H') (hc : c ≤ 1400) {L : List Nat} (f : Fr L w1 w2) (hL : ∀ g ∈ L, g = sb ∨ (x.tl ≠ 0 ∧ x.ad = some ⟨g, 0, none⟩)) (hs : RfAt w2 sb x') (hn : x'.n = x.n)
    (ha : ∀ t, x'.tl ≠ 0 → x'.ad = some ⟨t, 0, none⟩ → (x.tl ≠ 0 ∧ x.ad = some ⟨t, 0, none⟩) ∨ w1.heap.size ≤ t) (hi : x'.inT = true) :
    Cs w2 gb bp sb d pg wh ∧ ∃ K', LvA w0 w2 gb bp sb vb nb x' y (p + 1400) s K' m U b' H' V' ∧ (Says b.x.pages x' V' → LvI w0 w2 gb bp sb vb nb x' y (p + 1400) s K' m U b' H' V') := by
  have kp1 : ∀ q ∈ K, w1.heap[q.1]? = some q.2 := fun q hq => (D.i.ab.kp q hq).1
  have S1 := h.rg.sAt kp1
  have D1 := kp1 _ hd
  obtain ⟨K', A', R'⟩ := h.rg.turnS D.i.ab f hL hs hn ha
  have D2 : w2.heap[d]? = some (Obj.cells #[.int .i64 op, .int .i64 pg, .int .i64 wh] 119) := f.same (fun hm => by
    rcases hL d hm with e | ⟨h1, h2⟩
    · exact blk_ne D1 S1.box (by decide) e
    · obtain ⟨cur, hc⟩ := S1.row.box h1 h2
      exact blk_ne D1 hc (by decide) rfl) D1
  have hph := h.ph
  have dph := D.ph
  have E : LvA w0 w2 gb bp sb vb nb x' y (p + 1400) s K' m U b' H' V' := ⟨R', D.i.on A', hi, h.yi, by rw [D.tr.pages]; exact h.ys, by omega, h.sq, h.nb4⟩
  exact ⟨R'.cs (fun q hq => (A'.kp q hq).1) D2, K', E, fun hx => ⟨E.rg, E.i, E.xi, E.yi, by rw [D.tr.pages]; exact hx, E.ys, E.ph, E.sq, E.nb4⟩⟩
/-- Behind both calls, where neither turned the document's space. -/
theorem LvI.same (h : LvI w0 w gb bp sb vb nb x y p s K m U b H V) (D : Did w0 w1 bp K nb m U b H V' c b' H') (hc : c ≤ 1400) (hx : Says b.x.pages x V') : LvI w0 w1 gb bp sb vb nb x y (p + 1400) s K m U b' H' V' := by
  have hph := h.ph
  have dph := D.ph
  exact ⟨h.rg, D.i, h.xi, h.yi, by rw [D.tr.pages]; exact hx, by rw [D.tr.pages]; exact h.ys, by omega, h.sq, h.nb4⟩
theorem LvI.small (h : LvI w0 w gb bp sb vb nb x y p s K m U b H V) : 10 ≤ b.x.pages ∧ b.x.pages ≤ 300 := by
  have h1 := h.i.pg3
  have h2 := h.i.pg
  have h3 := h.nb4
  omega
/-- Format, in a transaction. -/
theorem LvI.format (h : LvI w0 w gb bp sb vb nb x y p s K m U b H V) (hd : (d, Obj.cells #[.int .i64 op, .int .i64 pg, .int .i64 wh] 119) ∈ K) (hp : p ≤ 200000) :
    Calls Tryz.prog 67 #[.pointer (some ⟨bp, 0, none⟩)] w fun e w1 => ∃ r : Int, e = .returned (.int .i64 r) ∧ Cs w1 gb bp sb d pg wh ∧ Hid (Calls Tryz.prog 143 #[.pointer (some ⟨sb, 0, none⟩)] w1 fun e w2 => ∃ f : Int, e = .returned (.int .i64 f) ∧ Cs w2 gb bp sb d pg wh ∧ Hid (Aft w0 w2 gb bp nb (p + 1400) s 0 r 0 f)) := by
  obtain ⟨n10, n300⟩ := h.small
  have hph := h.ph
  have en := h.xs.1
  have hm1 : mapsN b.x.pages = 1 := by unfold mapsN; omega
  have ho : ownN x.n < x.n := by rw [en]; unfold ownN; omega
  refine (sformat_in h.i 800 (by omega) (h.xs.far (by omega)) (by omega)).mono ?_
  rintro e w1 ⟨r, he, P⟩
  rcases P.out with ⟨rfl, _, b', H', V', D⟩ | ⟨rfl, b', H', D⟩
  · refine ⟨5, he, h.cs1 hd D, hidI ((rfFormat_in (h.sAt1 D) h.xi ho).mono ?_)⟩
    rintro e w2 ⟨he2, tb, htb, R2, F2⟩
    obtain ⟨C', K', E, _⟩ := h.fin hd D (by rw [hm1]; decide) F2 (fun g hg => Or.inl (by simpa using hg)) R2 rfl (fun t _ h4 => Or.inr (by
      have h6 : tb = t := by injection h4 with h4; injection h4
      omega)) rfl
    exact ⟨0, he2, C', hidI (Or.inl ⟨rfl, by decide, sb, vb, _, y, K', m, U, b', H', V', E⟩)⟩
  · refine ⟨0, he, h.cs1 hd D, hidI ((rfFormat_in (h.sAt1 D) h.xi ho).mono ?_)⟩
    rintro e w2 ⟨he2, tb, htb, R2, F2⟩
    obtain ⟨C', K', _, I⟩ := h.fin hd D (by rw [hm1]; decide) F2 (fun g hg => Or.inl (by simpa using hg)) R2 rfl (fun t _ h4 => Or.inr (by
      have h6 : tb = t := by injection h4 with h4; injection h4
      omega)) rfl
    exact ⟨0, he2, C', hidI (Or.inr ⟨rfl, rfl, (I (by
      have := h.xs.format (ad := some ⟨tb, 0, none⟩) (b := true) (by omega) (fun q hq => h.i.len hq)
      rw [en]
      exact this)).lv⟩)⟩
end
end Go.Proofs.YtopaeomjndblkaaGreat

namespace Go.Proofs.YtopaeomjndblkaaGreat
open Go.RowKit Go.Maps

section
variable {K : List (Nat × Obj)} {w0 w w1 w2 : World} {gb bp sb vb nb d : Nat} {x y x' : Rf} {p s op pg wh c : Int} {m : Mst} {U V V' : Pages} {b b' : Bk} {H H' : List Ch} {B : Nat}
theorem Says.low {n : Nat} (h : Says n x V) (ht : x.tl ≠ 0) {q : Nat} (hl : LowF V n q) : LowT x.tk n q :=
  ⟨hl.1, by rw [← h.bits ht hl.1]; exact hl.2.1, fun k hk => by rw [← h.bits ht (k := k) (by have := hl.1; omega)]; exact hl.2.2 k hk⟩
theorem LowT.uniq {t : Nat → Bool} {n q r : Nat} (h : LowT t n q) (k : LowT t n r) : q = r := by
  rcases Nat.lt_trichotomy q r with e | e | e
  · have := k.2.2 q e
    rw [h.2.1] at this
    cases this
  · exact e
  · have := h.2.2 r e
    rw [k.2.1] at this
    cases this
theorem LvI.take (h : LvI w0 w gb bp sb vb nb x y p s K m U b H V) (hd : (d, Obj.cells #[.int .i64 op, .int .i64 pg, .int .i64 wh] 119) ∈ K) (hp : p ≤ 200000) :
    Calls Tryz.prog 62 #[.pointer (some ⟨bp, 0, none⟩)] w fun e w1 => ∃ a r : Int, e = .returned (.tuple #[.int .i64 a, .int .i64 r]) ∧ Cs w1 gb bp sb d pg wh ∧ Hid (Calls Tryz.prog 144 #[.pointer (some ⟨sb, 0, none⟩)] w1 fun e w2 => ∃ c f : Int, e = .returned (.tuple #[.int .i64 c, .int .i64 f]) ∧ Cs w2 gb bp sb d pg wh ∧ Hid (Aft w0 w2 gb bp nb (p + 1400) s a r c f)) := by
  obtain ⟨n10, n300⟩ := h.small
  have hph := h.ph
  have en := h.xs.1
  by_cases ht : x.tl = 0
  · refine (stake_not h.i.ab h.i.tx.sh (by omega) (by omega) h.i.tx.st (h.xs.no ht (by omega))).mono ?_
    rintro e w1 ⟨b', he, P⟩
    have D := P.out.did h.i
    refine ⟨0, 4, he, h.cs1 hd D, hidI ((rfTake_not (h.sAt1 D) h.xi ht).mono ?_)⟩
    rintro e w2 ⟨he2, hw⟩
    rw [hw]
    exact ⟨0, 4, he2, h.cs1 hd D, hidI (Or.inr ⟨rfl, rfl, (h.same D (by decide) h.xs).lv⟩)⟩
  · have hs := h.xs.yes ht
    rcases low_or V b.x.pages with hn | ⟨q, hl⟩
    · refine (stake_none h.i hs.z.sp hn).mono ?_
      rintro e w1 ⟨he, b', P⟩
      have D := P.out
      refine ⟨0, 5, he, h.cs1 hd D, hidI ((rfTake_any (h.sAt1 D) h.xi ht).mono ?_)⟩
      rintro e w2 (⟨he2, _, hw⟩ | ⟨q, _, hq, _⟩)
      · rw [hw]
        exact ⟨0, 5, he2, h.cs1 hd D, hidI (Or.inr ⟨rfl, rfl, (h.same D (by decide) h.xs).lv⟩)⟩
      · exfalso
        rw [en] at hq
        have h1 := hn q hq.1
        rw [h.xs.bits ht hq.1, hq.2.1] at h1
        cases h1
    · have hT := h.xs.low ht hl
      have ho := hs.z.sp.free hl.2.1
      refine (stake_low h.i hs.z.sp hl 0 (fun S hS => cost_zs (h.xs.nought ho hl.1) hS) (by omega)).mono ?_
      rintro e w1 ⟨a, r, he, P⟩
      rcases P.out with ⟨rfl, rfl, _, b', H', V', _, D⟩ | ⟨rfl, rfl, b', H', D⟩
      · refine ⟨0, 5, he, h.cs1 hd D, hidI ((rfTake_any (h.sAt1 D) h.xi ht).mono ?_)⟩
        rintro e w2 (⟨_, hall, _⟩ | ⟨q', he2, hq, R2, tb, had, F2⟩)
        · exfalso
          have h1 := hall q (by rw [en]; exact hl.1)
          rw [hT.2.1] at h1
          cases h1
        · obtain ⟨C', K', E, _⟩ := h.fin hd D (by decide) F2 (fun g hg => Or.inr ⟨ht, by rw [had]; simp at hg; rw [hg]⟩) R2 rfl (fun t h1 h4 => Or.inl ⟨h1, h4⟩) h.xi
          exact ⟨_, 0, he2, C', hidI (Or.inl ⟨rfl, by decide, sb, vb, _, y, K', m, U, b', H', V', E⟩)⟩
      · refine ⟨(q : Int), 0, he, h.cs1 hd D, hidI ((rfTake_any (h.sAt1 D) h.xi ht).mono ?_)⟩
        rintro e w2 (⟨_, hall, _⟩ | ⟨q', he2, hq, R2, tb, had, F2⟩)
        · exfalso
          have h1 := hall q (by rw [en]; exact hl.1)
          rw [hT.2.1] at h1
          cases h1
        · rw [en] at hq
          obtain rfl := hq.uniq hT
          obtain ⟨C', K', _, I⟩ := h.fin hd D (by decide) F2 (fun g hg => Or.inr ⟨ht, by rw [had]; simp at hg; rw [hg]⟩) R2 rfl (fun t h1 h4 => Or.inl ⟨h1, h4⟩) h.xi
          exact ⟨_, 0, he2, C', hidI (Or.inr ⟨rfl, rfl, (I (h.xs.take ht (fun q hq => h.i.len hq) hl.1 hT.2.1)).lv⟩)⟩
theorem LvI.give (h : LvI w0 w gb bp sb vb nb x y p s K m U b H V) (hd : (d, Obj.cells #[.int .i64 op, .int .i64 pg, .int .i64 wh] 119) ∈ K) (hp : p ≤ 200000) :
    Calls Tryz.prog 63 #[.pointer (some ⟨bp, 0, none⟩), .int .i64 pg] w fun e w1 => ∃ r : Int, e = .returned (.int .i64 r) ∧ Cs w1 gb bp sb d pg wh ∧ Hid (Calls Tryz.prog 145 #[.pointer (some ⟨sb, 0, none⟩), .int .i64 pg] w1 fun e w2 => ∃ f : Int, e = .returned (.int .i64 f) ∧ Cs w2 gb bp sb d pg wh ∧ Hid (Aft w0 w2 gb bp nb (p + 1400) s 0 r 0 f)) := by
  obtain ⟨n10, n300⟩ := h.small
  have hph := h.ph
  have en := h.xs.1
  by_cases ht : x.tl = 0
  · refine (sgive_not h.i.ab h.i.tx.sh (by omega) (by omega) h.i.tx.st (h.xs.no ht (by omega)) pg).mono ?_
    rintro e w1 ⟨b', he, P⟩
    have D := P.out.did h.i
    refine ⟨4, he, h.cs1 hd D, hidI ((rfGive_not (h.sAt1 D) h.xi ht pg).mono ?_)⟩
    rintro e w2 ⟨he2, hw⟩
    rw [hw]
    exact ⟨4, he2, h.cs1 hd D, hidI (Or.inr ⟨rfl, rfl, (h.same D (by decide) h.xs).lv⟩)⟩
  · have hs := h.xs.yes ht
    by_cases hb : pg < (ownN x.n : Int) ∨ (x.n : Int) ≤ pg ∨ x.tk pg.toNat = false
    · refine (sgive_arg h.i hs.z.sp pg (by
        rw [← en]
        by_cases h1 : pg < (ownN x.n : Int)
        · exact Or.inr (Or.inr (Or.inl h1))
        by_cases h2 : (x.n : Int) ≤ pg
        · exact Or.inr (Or.inl h2)
        rcases hb with h3 | h3 | h3
        · exact (h1 h3).elim
        · exact (h2 h3).elim
        · refine Or.inr (Or.inr (Or.inr ?_))
          rw [h.xs.bits ht (by omega)]
          exact h3)).mono ?_
      rintro e w1 ⟨he, b', P⟩
      have D := P.out
      refine ⟨2, he, h.cs1 hd D, hidI ((rfGive_arg (h.sAt1 D) h.xi ht pg hb).mono ?_)⟩
      rintro e w2 ⟨he2, hw⟩
      rw [hw]
      exact ⟨2, he2, h.cs1 hd D, hidI (Or.inr ⟨rfl, rfl, (h.same D (by decide) h.xs).lv⟩)⟩
    · obtain ⟨q, rfl⟩ : ∃ q : Nat, pg = (q : Int) := ⟨pg.toNat, by omega⟩
      have hq1 : ownN x.n ≤ q := by omega
      have hq2 : q < x.n := by omega
      have hq3 : x.tk q = true := by
        cases e : x.tk q with
        | true => rfl
        | false => exact (hb (Or.inr (Or.inr (by rw [Int.toNat_natCast]; exact e)))).elim
      refine (sgive_in h.i hs.z.sp q (by omega) (by rw [← en]; exact hq1) (by rw [h.xs.bits ht (by omega)]; exact hq3) (by omega)).mono ?_
      rintro e w1 ⟨r, he, P⟩
      rcases P.out with ⟨rfl, _, b', D⟩ | ⟨rfl, b', H', D⟩
      · refine ⟨5, he, h.cs1 hd D, hidI ((rfGive_yes (h.sAt1 D) h.xi ht q hq1 hq2 hq3).mono ?_)⟩
        rintro e w2 ⟨he2, R2, tb, had, F2⟩
        obtain ⟨C', K', E, _⟩ := h.fin hd D (by decide) F2 (fun g hg => Or.inr ⟨ht, by rw [had]; simp at hg; rw [hg]⟩) R2 rfl (fun t h1 h4 => Or.inl ⟨h1, h4⟩) h.xi
        exact ⟨0, he2, C', hidI (Or.inl ⟨rfl, by decide, sb, vb, _, y, K', m, U, b', _, V, E⟩)⟩
      · refine ⟨0, he, h.cs1 hd D, hidI ((rfGive_yes (h.sAt1 D) h.xi ht q hq1 hq2 hq3).mono ?_)⟩
        rintro e w2 ⟨he2, R2, tb, had, F2⟩
        obtain ⟨C', K', _, I⟩ := h.fin hd D (by decide) F2 (fun g hg => Or.inr ⟨ht, by rw [had]; simp at hg; rw [hg]⟩) R2 rfl (fun t h1 h4 => Or.inl ⟨h1, h4⟩) h.xi
        exact ⟨0, he2, C', hidI (Or.inr ⟨rfl, rfl, (I (h.xs.give ht (fun q hq => h.i.len hq) (by omega) (by rw [← en]; exact hq1))).lv⟩)⟩
theorem LvI.setRoot (h : LvI w0 w gb bp sb vb nb x y p s K m U b H V) (hd : (d, Obj.cells #[.int .i64 op, .int .i64 pg, .int .i64 wh] 119) ∈ K) (hp : p ≤ 200000) :
    Calls Tryz.prog 64 #[.pointer (some ⟨bp, 0, none⟩), .int .i64 wh, .int .i64 pg] w fun e w1 => ∃ r : Int, e = .returned (.int .i64 r) ∧ Cs w1 gb bp sb d pg wh ∧ Hid (Calls Tryz.prog 146 #[.pointer (some ⟨sb, 0, none⟩), .int .i64 wh, .int .i64 pg] w1 fun e w2 => ∃ f : Int, e = .returned (.int .i64 f) ∧ Cs w2 gb bp sb d pg wh ∧ Hid (Aft w0 w2 gb bp nb (p + 1400) s 0 r 0 f)) := by
  obtain ⟨n10, n300⟩ := h.small
  have hph := h.ph
  have en := h.xs.1
  by_cases hb : wh < 0 ∨ 7 < wh ∨ pg < 0 ∨ (x.n : Int) ≤ pg
  · refine (ssetRoot_arg h.i.ab (by omega) h.i.tx.st wh pg (by omega)).mono ?_
    rintro e w1 ⟨he, hw1⟩
    have D := h.i.did
    rw [hw1]
    refine ⟨2, he, h.cs1 hd D, hidI ((rfSetRoot_arg (h.sAt1 D) h.xi wh pg hb).mono ?_)⟩
    rintro e w2 ⟨he2, hw⟩
    rw [hw]
    exact ⟨2, he2, h.cs1 hd D, hidI (Or.inr ⟨rfl, rfl, (h.same D (by decide) h.xs).lv⟩)⟩
  · obtain ⟨q, rfl⟩ : ∃ q : Nat, pg = (q : Int) := ⟨pg.toNat, by omega⟩
    obtain ⟨k, rfl⟩ : ∃ k : Nat, wh = (k : Int) := ⟨wh.toNat, by omega⟩
    by_cases ht : x.tl = 0
    · refine (ssetRoot_not h.i.ab h.i.tx.sh (by omega) (by omega) h.i.tx.st (h.xs.no ht (by omega)) k q (by omega) (by omega)).mono ?_
      rintro e w1 ⟨b', he, P⟩
      have D := P.out.did h.i
      refine ⟨4, he, h.cs1 hd D, hidI ((rfSetRoot_not (h.sAt1 D) h.xi ht k q (by omega) (by omega)).mono ?_)⟩
      rintro e w2 ⟨he2, hw⟩
      rw [hw]
      exact ⟨4, he2, h.cs1 hd D, hidI (Or.inr ⟨rfl, rfl, (h.same D (by decide) h.xs).lv⟩)⟩
    · have hs := h.xs.yes ht
      refine (in_setRoot h.i (by omega) hs.z.sp.hd k q (by omega) (by omega)).mono ?_
      rintro e w1 ⟨r, he, P⟩
      rcases P.out with ⟨rfl, _, b', D⟩ | ⟨rfl, b', H', D⟩
      · refine ⟨5, he, h.cs1 hd D, hidI ((rfSetRoot_yes (h.sAt1 D) h.xi ht k q (by omega) (by omega)).mono ?_)⟩
        rintro e w2 ⟨he2, R2, F2⟩
        obtain ⟨C', K', E, _⟩ := h.fin hd D (by decide) F2 (fun g hg => Or.inl (by simpa using hg)) R2 rfl (fun t h1 h4 => Or.inl ⟨h1, h4⟩) h.xi
        exact ⟨0, he2, C', hidI (Or.inl ⟨rfl, by decide, sb, vb, _, y, K', m, U, b', _, V, E⟩)⟩
      · refine ⟨0, he, h.cs1 hd D, hidI ((rfSetRoot_yes (h.sAt1 D) h.xi ht k q (by omega) (by omega)).mono ?_)⟩
        rintro e w2 ⟨he2, R2, F2⟩
        obtain ⟨C', K', _, I⟩ := h.fin hd D (by decide) F2 (fun g hg => Or.inl (by simpa using hg)) R2 rfl (fun t h1 h4 => Or.inl ⟨h1, h4⟩) h.xi
        exact ⟨0, he2, C', hidI (Or.inr ⟨rfl, rfl, (I (h.xs.root ht (by omega) (by omega) (fun q hq => h.i.len hq) (by omega) (by omega))).lv⟩)⟩
end
end Go.Proofs.YtopaeomjndblkaaGreat

namespace Go.Proofs.YtopaeomjndblkaaGreat
open Go.RowKit Go.Maps

section
variable {K : List (Nat × Obj)} {w0 w w' : World} {gb bp sb vb nb d : Nat} {x y : Rf} {p s op pg wh : Int} {m : Mst} {U V : Pages} {b : Bk} {H : List Ch} {r f a c : Int}
theorem LvO.st (h : LvO w0 w gb bp sb vb nb x y p s K m b V) : b.t.st = 0 := by rw [h.i.idle.t]; rfl
theorem LvO.pos (h : LvO w0 w gb bp sb vb nb x y p s K m b V) : 0 < b.x.pages := by
  have h1 := h.i.env.pages
  have h2 := h.i.env.n0
  omega
theorem LvO.cs (h : LvO w0 w gb bp sb vb nb x y p s K m b V) (hd : (d, Obj.cells #[.int .i64 op, .int .i64 pg, .int .i64 wh] 119) ∈ K) : Cs w gb bp sb d pg wh := h.rg.cs h.kp (h.kp _ hd)
theorem LvO.aft (h : LvO w0 w gb bp sb vb nb x y p s K m b V) : Hid (Aft w0 w gb bp nb (p + 1400) s 0 7 0 7) := hidI (Or.inr ⟨rfl, rfl, (h.le (by omega) (by omega)).lv⟩)
def St (w0 w : World) (gb bp sb vb nb : Nat) (x y : Rf) (p s : Int) (K : List (Nat × Obj)) (m : Mst) (b : Bk) : Prop := (∃ V, LvO w0 w gb bp sb vb nb x y p s K m b V) ∨ ∃ U H V, LvI w0 w gb bp sb vb nb x y p s K m U b H V
theorem St.quiet (h : St w0 w gb bp sb vb nb x y p s K m b) (f : Fr [] w w') : St w0 w' gb bp sb vb nb x y p s K m b := by
  rcases h with ⟨V, h⟩ | ⟨U, H, V, h⟩
  · exact Or.inl ⟨V, h.quiet f⟩
  · exact Or.inr ⟨U, H, V, h.quiet f⟩
/-- The step's own box, too, is kept. -/
theorem St.push (h : St w0 w gb bp sb vb nb x y p s K m b) (hd : w.heap[d]? = some (Obj.cells #[.int .i64 op, .int .i64 pg, .int .i64 wh] 119)) : St w0 w gb bp sb vb nb x y p s ((d, Obj.cells #[.int .i64 op, .int .i64 pg, .int .i64 wh] 119) :: K) m b := by
  rcases h with ⟨V, h⟩ | ⟨U, H, V, h⟩
  · exact Or.inl ⟨V, { h with rg := h.rg.more (fun q hq => List.mem_cons_of_mem _ hq), i := h.i.on (h.i.ab.add hd (h.i.ab.bk.away hd (by decide) (by decide) (by decide) (by decide)).2.1) }⟩
  · exact Or.inr ⟨U, H, V, { h with rg := h.rg.more (fun q hq => List.mem_cons_of_mem _ hq), i := h.i.on (h.i.ab.add hd (h.i.ab.bk.away hd (by decide) (by decide) (by decide) (by decide)).2.1) }⟩
theorem St.cs (h : St w0 w gb bp sb vb nb x y p s K m b) (hd : (d, Obj.cells #[.int .i64 op, .int .i64 pg, .int .i64 wh] 119) ∈ K) : Cs w gb bp sb d pg wh := by
  rcases h with ⟨V, h⟩ | ⟨U, H, V, h⟩
  · exact h.cs hd
  · exact h.rg.cs h.kp (h.kp _ hd)
theorem St.format (h : St w0 w gb bp sb vb nb x y p s K m b) (hd : (d, Obj.cells #[.int .i64 op, .int .i64 pg, .int .i64 wh] 119) ∈ K) (hp : p ≤ 200000) :
    Calls Tryz.prog 67 #[.pointer (some ⟨bp, 0, none⟩)] w fun e w1 => ∃ r : Int, e = .returned (.int .i64 r) ∧ Cs w1 gb bp sb d pg wh ∧ Hid (Calls Tryz.prog 143 #[.pointer (some ⟨sb, 0, none⟩)] w1 fun e w2 => ∃ f : Int, e = .returned (.int .i64 f) ∧ Cs w2 gb bp sb d pg wh ∧ Hid (Aft w0 w2 gb bp nb (p + 1400) s 0 r 0 f)) := by
  rcases h with ⟨V, h⟩ | ⟨U, H, V, h⟩
  · refine (sformat_out h.i.ab h.pos h.st).mono ?_
    rintro e w1 ⟨he, hw⟩
    rw [hw]
    refine ⟨7, he, h.cs hd, hidI ((rfFormat_out (h.rg.sAt h.kp) h.xi).mono ?_)⟩
    rintro e w2 ⟨he2, hw2⟩
    rw [hw2]
    exact ⟨7, he2, h.cs hd, h.aft⟩
  · exact h.format hd hp
theorem St.take (h : St w0 w gb bp sb vb nb x y p s K m b) (hd : (d, Obj.cells #[.int .i64 op, .int .i64 pg, .int .i64 wh] 119) ∈ K) (hp : p ≤ 200000) :
    Calls Tryz.prog 62 #[.pointer (some ⟨bp, 0, none⟩)] w fun e w1 => ∃ a r : Int, e = .returned (.tuple #[.int .i64 a, .int .i64 r]) ∧ Cs w1 gb bp sb d pg wh ∧ Hid (Calls Tryz.prog 144 #[.pointer (some ⟨sb, 0, none⟩)] w1 fun e w2 => ∃ c f : Int, e = .returned (.tuple #[.int .i64 c, .int .i64 f]) ∧ Cs w2 gb bp sb d pg wh ∧ Hid (Aft w0 w2 gb bp nb (p + 1400) s a r c f)) := by
  rcases h with ⟨V, h⟩ | ⟨U, H, V, h⟩
  · refine (stake_out h.i.ab h.pos h.st).mono ?_
    rintro e w1 ⟨he, hw⟩
    rw [hw]
    refine ⟨0, 7, he, h.cs hd, hidI ((rfTake_out (h.rg.sAt h.kp) h.xi).mono ?_)⟩
    rintro e w2 ⟨he2, hw2⟩
    rw [hw2]
    exact ⟨0, 7, he2, h.cs hd, h.aft⟩
  · exact h.take hd hp
theorem St.give (h : St w0 w gb bp sb vb nb x y p s K m b) (hd : (d, Obj.cells #[.int .i64 op, .int .i64 pg, .int .i64 wh] 119) ∈ K) (hp : p ≤ 200000) :
    Calls Tryz.prog 63 #[.pointer (some ⟨bp, 0, none⟩), .int .i64 pg] w fun e w1 => ∃ r : Int, e = .returned (.int .i64 r) ∧ Cs w1 gb bp sb d pg wh ∧ Hid (Calls Tryz.prog 145 #[.pointer (some ⟨sb, 0, none⟩), .int .i64 pg] w1 fun e w2 => ∃ f : Int, e = .returned (.int .i64 f) ∧ Cs w2 gb bp sb d pg wh ∧ Hid (Aft w0 w2 gb bp nb (p + 1400) s 0 r 0 f)) := by
  rcases h with ⟨V, h⟩ | ⟨U, H, V, h⟩
  · refine (sgive_out h.i.ab h.pos h.st pg).mono ?_
    rintro e w1 ⟨he, hw⟩
    rw [hw]
    refine ⟨7, he, h.cs hd, hidI ((rfGive_out (h.rg.sAt h.kp) h.xi pg).mono ?_)⟩
    rintro e w2 ⟨he2, hw2⟩
    rw [hw2]
    exact ⟨7, he2, h.cs hd, h.aft⟩
  · exact h.give hd hp
theorem St.setRoot (h : St w0 w gb bp sb vb nb x y p s K m b) (hd : (d, Obj.cells #[.int .i64 op, .int .i64 pg, .int .i64 wh] 119) ∈ K) (hp : p ≤ 200000) :
    Calls Tryz.prog 64 #[.pointer (some ⟨bp, 0, none⟩), .int .i64 wh, .int .i64 pg] w fun e w1 => ∃ r : Int, e = .returned (.int .i64 r) ∧ Cs w1 gb bp sb d pg wh ∧ Hid (Calls Tryz.prog 146 #[.pointer (some ⟨sb, 0, none⟩), .int .i64 wh, .int .i64 pg] w1 fun e w2 => ∃ f : Int, e = .returned (.int .i64 f) ∧ Cs w2 gb bp sb d pg wh ∧ Hid (Aft w0 w2 gb bp nb (p + 1400) s 0 r 0 f)) := by
  rcases h with ⟨V, h⟩ | ⟨U, H, V, h⟩
  · refine (ssetRoot_out h.i.ab h.pos h.st wh pg).mono ?_
    rintro e w1 ⟨he, hw⟩
    rw [hw]
    refine ⟨7, he, h.cs hd, hidI ((rfSetRoot_out (h.rg.sAt h.kp) h.xi wh pg).mono ?_)⟩
    rintro e w2 ⟨he2, hw2⟩
    rw [hw2]
    exact ⟨7, he2, h.cs hd, h.aft⟩
  · exact h.setRoot hd hp
theorem Lv.more {p' s' : Int} (h : Lv w0 w gb bp nb p s) (hp : p ≤ p') (hs : s ≤ s') : Lv w0 w gb bp nb p' s' := by
  obtain ⟨sb, vb, x, y, K, m, b, ⟨V, h⟩ | ⟨U, H, V, h⟩⟩ := h
  · exact (h.le hp hs).lv
  · exact (h.le hp hs).lv
theorem St.turn (h : St w0 w gb bp sb vb nb x y p s K m b) (hp : p ≤ 200000) (hs : s ≤ 1000) :
    Calls Tryz.prog 142 #[.pointer (some ⟨gb, 0, none⟩), .int .i64 0] w fun e w' => e = .returned (.bool true) ∧ Hid (Lv w0 w' gb bp nb (p + 1500) (s + 1)) := by
  rcases h with ⟨V, h⟩ | ⟨U, H, V, h⟩
  · refine (h.begin hs 0).mono ?_
    rintro e w' ⟨he, P⟩
    exact ⟨he, hidI (P.out.more (by omega) (by omega))⟩
  · refine (h.commit (by omega)).mono ?_
    rintro e w' ⟨he, P⟩
    exact ⟨he, hidI (P.out.more (by omega) (by omega))⟩
theorem LvA.abort' (h : LvA w0 w gb bp sb vb nb x y (p + 1400) s K m U b H V) (hp : p ≤ 200000) :
    Calls Tryz.prog 142 #[.pointer (some ⟨gb, 0, none⟩), .int .i64 1] w fun e w' => e = .returned (.bool true) ∧ Hid (Lv w0 w' gb bp nb (p + 1500) (s + 1)) := by
  refine (h.abort (by omega)).mono ?_
  rintro e w' ⟨he, P⟩
  exact ⟨he, hidI (P.out.more (by omega) (by omega))⟩
/-- What the test behind both calls asks, and what is told then. -/
def AftW (w0 w : World) (gb bp nb : Nat) (p s a r c f : Int) : Prop :=
  (r = 5 ∧ (f == 5) = false ∧ Calls Tryz.prog 142 #[.pointer (some ⟨gb, 0, none⟩), .int .i64 1] w fun e w' => e = .returned (.bool true) ∧ Hid (Lv w0 w' gb bp nb (p + 1500) (s + 1))) ∨ (r = f ∧ a = c ∧ Hid (Lv w0 w gb bp nb (p + 1500) (s + 1)))
theorem Aft.told (h : Aft w0 w gb bp nb (p + 1400) s a r c f) (hp : p ≤ 200000) : AftW w0 w gb bp nb p s a r c f := by
  rcases h with ⟨h1, h2, sb, vb, x, y, K, m, U, b, H, V, h⟩ | ⟨h1, h2, h⟩
  · exact Or.inl ⟨h1, by simpa using h2, h.abort' hp⟩
  · exact Or.inr ⟨h1, h2, hidI (h.more (by omega) (by omega))⟩
end
end Go.Proofs.YtopaeomjndblkaaGreat

namespace Go.Proofs.YtopaeomjndblkaaGreat
open Go.RowKit Go.Maps

section
variable {K : List (Nat × Obj)} {w0 w w' : World} {gb bp sb vb nb d : Nat} {x y : Rf} {p s op pg wh : Int} {m : Mst} {U V : Pages} {b : Bk} {H : List Ch} {r f a c : Int}
set_option maxHeartbeats 8000000 in
set_option maxRecDepth 100000 in
theorem step_any (h : Lv w0 w gb bp nb p s) (hp : p ≤ 200000) (hs : s ≤ 1000) (hop : (Lit.int .i64 op).wf = true) :
    Calls Tryz.prog 56 #[.pointer (some ⟨gb, 0, none⟩), .agg #[.int .i64 op, .int .i64 pg, .int .i64 wh]] w fun e w' => e = .returned (.bool true) ∧ Hid (Lv w0 w' gb bp nb (p + 1500) (s + 1)) := by
  obtain ⟨sb, vb, x, y, K, m, b, h⟩ := h
  obtain ⟨d, hd⟩ : ∃ d, w.heap.size = d := ⟨_, rfl⟩
  have D0 : (w.alloc (Obj.cells #[.int .i64 op, .int .i64 pg, .int .i64 wh] 119)).heap[d]? = some (Obj.cells #[.int .i64 op, .int .i64 pg, .int .i64 wh] 119) := by rw [← hd]; exact heap_alloc_new w _
  have S0 := hidI (St.push (St.quiet h ((Fr.refl _ _).alloc _)) D0)
  clear h
  go_enter Tryz.func56, Tryz.ntmps56
  go_upto_region 3 with fail
  generalize w.alloc (Obj.cells #[.int .i64 op, .int .i64 pg, .int .i64 wh] 119) = wa at S0 D0 ⊢
  have d0 : wa.cell? ⟨d, 0, none⟩ = some (.int .i64 op) := cell_of_row wa d 0 _ _ _ D0
  clear D0 hd
  obtain ⟨k, k0, k1, PO⟩ := pick_in wa op 11 hop (by omega) (by omega)
  have hk : k = 0 ∨ k = 1 ∨ k = 2 ∨ (k = 3 ∨ k = 4 ∨ k = 5 ∨ k = 6) ∨ (k = 7 ∨ k = 8) ∨ (k = 9 ∨ k = 10) := by omega
  clear k0 k1
  rcases hk with rfl | rfl | rfl | hk | hk | hk
  · have TX := St.turn S0.out hp hs
    go_wp2_with (first
      | (go_at_call 40; refine PO.mono ?_; rintro e wz ⟨rfl, hz⟩; rw [hz]; clear hz)
      | (go_at_call 142; refine TX.mono ?_; rintro e w4 ⟨rfl, P⟩))
    go_ret
    exact ⟨rfl, P⟩
  · rcases S0.out with ⟨V, O⟩ | ⟨U, H, V, I⟩
    · have g1 := (O.cs List.mem_cons_self).g1
      have s1 : wa.cell? ⟨sb, 1, none⟩ = some (.bool false) := by rw [(O.rg.sAt O.kp).c1, O.xi]
      have LL := hidI (O.lv.more (p' := p + 1500) (s' := s + 1) (by omega) (by omega))
      clear S0 O
      go_wp2_with (go_at_call 40; refine PO.mono ?_; rintro e wz ⟨rfl, hz⟩; rw [hz]; clear hz)
      go_ret
      exact ⟨rfl, LL⟩
    · have g1 := (S0.out.cs List.mem_cons_self).g1
      have s1 : wa.cell? ⟨sb, 1, none⟩ = some (.bool true) := by rw [(I.rg.sAt I.kp).c1, I.xi]
      have AX := (({ I.a with ph := by have := I.ph; omega } : LvA w0 wa gb bp sb vb nb x y (p + 1400) s _ m U b H V).abort' hp)
      clear S0 I
      go_wp2_with (first
        | (go_at_call 40; refine PO.mono ?_; rintro e wz ⟨rfl, hz⟩; rw [hz]; clear hz)
        | (go_at_call 142; refine AX.mono ?_; rintro e w4 ⟨rfl, P⟩))
      go_ret
      exact ⟨rfl, P⟩
  · have FX := hidI (St.format (S0.out.quiet (Fr.refl [] wa).drew) List.mem_cons_self hp)
    have C0 := S0.out.cs List.mem_cons_self
    have g0 := C0.g0
    have g1 := C0.g1
    clear S0 C0
    go_wp2_with (go_at_call 40; refine PO.mono ?_; rintro e wz ⟨rfl, hz⟩; rw [hz]; clear hz)
    go_region_held3 (fun w' => w'.cell? ⟨gb, 0, none⟩ = some (.pointer (some ⟨bp, 0, none⟩)) ∧ w'.cell? ⟨gb, 1, none⟩ = some (.pointer (some ⟨sb, 0, none⟩))) (exact ⟨by assumption, by assumption⟩) ((first
      | (go_at_call 67; refine FX.out.mono ?_; rintro e w1 ⟨r, rfl, C1, P1⟩; have g0a := C1.g0; have g1a := C1.g1)
      | (go_at_call 143; refine P1.out.mono ?_; rintro e w2 ⟨f, rfl, C2, P2⟩; have g0b := C2.g0; have g1b := C2.g1)))
    clear FX P1 C1 C2 g0a g1a g0b g1b g0 g1
    rcases Aft.told P2.out hp with ⟨rfl, hf, TX⟩ | ⟨rfl, _, L⟩
    · have hf2 : (f != 5) = true := by simp [bne, hf]
      go_wp2_with (go_at_call 142; refine TX.mono ?_; rintro e w4 ⟨rfl, P⟩)
      go_ret
      exact ⟨rfl, P⟩
    · by_cases h5 : r = 5
      · subst h5
        go_wp2
        go_ret
        exact ⟨rfl, L⟩
      · have h6 : (r == 5) = false := by simpa using h5
        clear h5
        go_wp2
        go_ret
        exact ⟨by simp, L⟩
  · have FX := St.take S0.out List.mem_cons_self hp
    have C0 := S0.out.cs List.mem_cons_self
    have g0 := C0.g0
    clear S0 C0
    rcases hk with rfl | rfl | rfl | rfl
    all_goals
      go_upto_region 21 with (first
        | (go_at_call 40; refine PO.mono ?_; rintro e wz ⟨rfl, hz⟩; rw [hz]; clear hz)
        | (go_at_call 62; refine FX.mono ?_; rintro e w1 ⟨a, r, rfl, C1, P1⟩; have g1 := C1.g1)
        | (go_at_call 144; refine P1.out.mono ?_; rintro e w2 ⟨c, f, rfl, C2, P2⟩))
      clear FX P1 C1 C2 g0 g1
      rcases Aft.told P2.out hp with ⟨rfl, hf, TX⟩ | ⟨rfl, rfl, L⟩
      · have hf2 : (f != 5) = true := by simp [bne, hf]
        go_wp2_with (go_at_call 142; refine TX.mono ?_; rintro e w4 ⟨rfl, P⟩)
        go_ret
        exact ⟨rfl, P⟩
      · by_cases h5 : r = 5
        · subst h5
          go_wp2
          go_ret
          exact ⟨rfl, L⟩
        · have h6 : (r == 5) = false := by simpa using h5
          clear h5
          go_wp2
          go_ret
          exact ⟨by simp, L⟩
  · rcases hk with rfl | rfl
    all_goals
      have FX := hidI (St.give (S0.out.quiet (Fr.refl [] wa).drew) List.mem_cons_self hp)
      have C0 := S0.out.cs List.mem_cons_self
      have g0 := C0.g0
      have g1 := C0.g1
      have d1 := C0.d1
      clear S0 C0
      go_wp2_with (go_at_call 40; refine PO.mono ?_; rintro e wz ⟨rfl, hz⟩; rw [hz]; clear hz)
      go_region_held3 (fun w' => w'.cell? ⟨gb, 0, none⟩ = some (.pointer (some ⟨bp, 0, none⟩)) ∧ w'.cell? ⟨gb, 1, none⟩ = some (.pointer (some ⟨sb, 0, none⟩)) ∧ w'.cell? ⟨d, 1, none⟩ = some (.int .i64 pg)) (exact ⟨by assumption, by assumption, by assumption⟩) ((first
        | (go_at_call 63; refine FX.out.mono ?_; rintro e w1 ⟨r, rfl, C1, P1⟩; have g0a := C1.g0; have g1a := C1.g1; have d1a := C1.d1)
        | (go_at_call 145; refine P1.out.mono ?_; rintro e w2 ⟨f, rfl, C2, P2⟩; have g0b := C2.g0; have g1b := C2.g1; have d1b := C2.d1)))
      clear FX P1 C1 C2 g0a g1a d1a g0b g1b d1b g0 g1 d1
      rcases Aft.told P2.out hp with ⟨rfl, hf, TX⟩ | ⟨rfl, _, L⟩
      · have hf2 : (f != 5) = true := by simp [bne, hf]
        go_wp2_with (go_at_call 142; refine TX.mono ?_; rintro e w4 ⟨rfl, P⟩)
        go_ret
        exact ⟨rfl, P⟩
      · by_cases h5 : r = 5
        · subst h5
          go_wp2
          go_ret
          exact ⟨rfl, L⟩
        · have h6 : (r == 5) = false := by simpa using h5
          clear h5
          go_wp2
          go_ret
          exact ⟨by simp, L⟩
  · rcases hk with rfl | rfl
    all_goals
      have FX := hidI (St.setRoot (S0.out.quiet (Fr.refl [] wa).drew) List.mem_cons_self hp)
      have C0 := S0.out.cs List.mem_cons_self
      have g0 := C0.g0
      have g1 := C0.g1
      have d1 := C0.d1
      have d2 := C0.d2
      clear S0 C0
      go_wp2_with (go_at_call 40; refine PO.mono ?_; rintro e wz ⟨rfl, hz⟩; rw [hz]; clear hz)
      go_region_held3 (fun w' => w'.cell? ⟨gb, 0, none⟩ = some (.pointer (some ⟨bp, 0, none⟩)) ∧ w'.cell? ⟨gb, 1, none⟩ = some (.pointer (some ⟨sb, 0, none⟩)) ∧ w'.cell? ⟨d, 1, none⟩ = some (.int .i64 pg) ∧ w'.cell? ⟨d, 2, none⟩ = some (.int .i64 wh)) (exact ⟨by assumption, by assumption, by assumption, by assumption⟩) ((first
        | (go_at_call 64; refine FX.out.mono ?_; rintro e w1 ⟨r, rfl, C1, P1⟩; have g0a := C1.g0; have g1a := C1.g1; have d1a := C1.d1; have d2a := C1.d2)
        | (go_at_call 146; refine P1.out.mono ?_; rintro e w2 ⟨f, rfl, C2, P2⟩; have g0b := C2.g0; have g1b := C2.g1; have d1b := C2.d1; have d2b := C2.d2)))
      clear FX P1 C1 C2 g0a g1a d1a d2a g0b g1b d1b d2b g0 g1 d1 d2
      rcases Aft.told P2.out hp with ⟨rfl, hf, TX⟩ | ⟨rfl, _, L⟩
      · have hf2 : (f != 5) = true := by simp [bne, hf]
        go_wp2_with (go_at_call 142; refine TX.mono ?_; rintro e w4 ⟨rfl, P⟩)
        go_ret
        exact ⟨rfl, P⟩
      · by_cases h5 : r = 5
        · subst h5
          go_wp2
          go_ret
          exact ⟨rfl, L⟩
        · have h6 : (r == 5) = false := by simpa using h5
          clear h5
          go_wp2
          go_ret
          exact ⟨by simp, L⟩
end
end Go.Proofs.YtopaeomjndblkaaGreat

namespace Go.Proofs.YtopaeomjndblkaaGreat
open Go.RowKit Go.Maps

section
variable {K : List (Nat × Obj)} {w0 w w' : World} {gb bp sb vb nb d : Nat} {x y : Rf} {p s op pg wh : Int} {m : Mst} {U V : Pages} {b : Bk} {H : List Ch}
theorem LvO.small (h : LvO w0 w gb bp sb vb nb x y p s K m b V) : 10 ≤ b.x.pages ∧ b.x.pages ≤ 65536 := by
  have h1 := h.i.env.pages
  have h2 := h.i.env.n0
  have h3 := h.nb4
  omega
theorem Lv.like (h : Lv w0 w gb bp nb p s) (op pg wh : Int) :
    Calls Tryz.prog 57 #[.pointer (some ⟨gb, 0, none⟩), .agg #[.int .i64 op, .int .i64 pg, .int .i64 wh]] w fun e w' => e = .returned (.bool true) ∧ Hid (Lv w0 w' gb bp nb p s) := by
  obtain ⟨sb, vb, x, y, K, m, b, ⟨V, h⟩ | ⟨U, H, V, h⟩⟩ := h
  · have hs := h.small
    refine (like_any h.rg h.i.ab h.i.idle.sh (by omega) (by omega) h.xs op pg wh).mono ?_
    rintro e w' ⟨he, b', P⟩
    exact ⟨he, hidI (h.rd P.out).lv⟩
  · have hs := h.small
    refine (like_any h.rg h.i.ab h.i.tx.sh (by omega) (by omega) h.xs op pg wh).mono ?_
    rintro e w' ⟨he, b', P⟩
    exact ⟨he, hidI (h.rd P.out).lv⟩
/-- How many pages there are: what the last loop reads. -/
theorem Lv.pages (h : Lv w0 w gb bp nb p s) : ∃ (sb n : Nat), n ≤ 65536 ∧ (n : Int) = (nb : Int) - 2 - (nb : Int) / 2 ∧ w.cell? ⟨gb, 1, none⟩ = some (.pointer (some ⟨sb, 0, none⟩)) ∧ w.cell? ⟨sb, 0, none⟩ = some (.int .i64 (n : Int)) := by
  obtain ⟨sb, vb, x, y, K, m, b, ⟨V, h⟩ | ⟨U, H, V, h⟩⟩ := h
  · have hs := h.small
    have en := h.xs.1
    exact ⟨sb, x.n, by omega, by rw [en]; exact h.i.env.pages, cell_of_row w gb 1 _ _ _ (h.rg.gAt h.kp), (h.rg.sAt h.kp).c0⟩
  · have hs := h.small
    have en := h.xs.1
    exact ⟨sb, x.n, by omega, by rw [en]; exact h.i.env.pages, cell_of_row w gb 1 _ _ _ (h.rg.gAt h.kp), (h.rg.sAt h.kp).c0⟩
theorem Lv.fr (h : Lv w0 w gb bp nb p s) : Fr [] w0 w := by
  obtain ⟨sb, vb, x, y, K, m, b, ⟨V, h⟩ | ⟨U, H, V, h⟩⟩ := h
  · exact h.i.ab.fr
  · exact h.i.ab.fr
def rf0 (n : Nat) : Rf := ⟨n, false, none, 0, 0, fun _ => false, fun _ => 0⟩
end
set_option maxHeartbeats 4000000 in
set_option maxRecDepth 100000 in
theorem lbegin_ok (w : World) (bl : Int) (hbl : (Lit.int .i64 bl).wf = true) :
    Calls Tryz.prog 55 #[.int .i64 bl] w fun e w' => ∃ gb, e = .returned (.tuple #[.pointer (some ⟨gb, 0, none⟩), .bool true]) ∧ ∃ bp nb, nb ≤ 224 ∧ Hid (Lv w w' gb bp nb 1000 10) := by
  obtain ⟨nb, h0, h1, _, BX⟩ := book_ok w bl 200 hbl (by decide) (by decide)
  go_enter Tryz.func55, Tryz.ntmps55
  go_upto_region 4 with (go_at_call 66; refine BX.mono ?_; rintro e w1 ⟨bp, rfl, P1⟩)
  obtain ⟨b, HB⟩ : ∃ b, Hid (Ab w w1 bp b [] ∧ Fresh b nb 8 3 m321) := by
    obtain ⟨b, h⟩ := P1.out
    exact ⟨b, hidI h⟩
  have I1 : Hid (Idl w w1 bp [] nb m321 b Z0) := hidI ⟨HB.out.1, HB.out.2.env (by omega) (by omega), HB.out.2.idle (by omega) (by omega)⟩
  have PX := ab_pages HB.out.1
  clear P1 BX
  go_upto_region 5 with (go_at_call 24; refine PX.mono ?_; rintro e wz ⟨rfl, hz⟩; rw [hz]; clear hz)
  have hpg := I1.out.env.pages
  obtain ⟨n, hn⟩ : ∃ n, b.x.pages = n := ⟨_, rfl⟩
  obtain ⟨sb, hsb⟩ : ∃ sb, w1.heap.size = sb := ⟨_, rfl⟩
  have f2 := (Fr.refl [] w1).alloc (Obj.cells (rv (rf0 n)) 123)
  have B2 := heap_alloc_new w1 (Obj.cells (rv (rf0 n)) 123)
  obtain ⟨w2, hw2⟩ : ∃ w2, w1.alloc (Obj.cells (rv (rf0 n)) 123) = w2 := ⟨_, rfl⟩
  rw [hn, hsb]
  rw [hsb, hw2] at B2
  rw [hw2] at f2
  have e2 : w1.alloc (Obj.cells #[.int .i64 (n : Int), .bool false, .slice none 0 0, .int .i64 0, .int .i64 0, .int .i64 0, .int .i64 0, .int .i64 0, .int .i64 0, .int .i64 0, .int .i64 0] 123) = w2 := hw2
  rw [e2]
  have S2 : RfAt w2 sb (rf0 n) := ⟨B2, Or.inl rfl, by show n ≤ 65536; omega⟩
  have CX := rfCopy_any S2
  have HH := hidI (And.intro hn (And.intro hsb (And.intro f2 S2)))
  clear hn hsb f2 B2 hw2 e2 S2 hpg PX
  go_wp2_with (go_at_call 141; refine CX.mono ?_; rintro e w3 ⟨cb, bb, cc, rfl, hcb, hbb, R3, F3⟩)
  go_ret2
  obtain ⟨hn, hsb, f2, S2⟩ := HH.out
  have f4 := (Fr.refl [] w3).alloc (Obj.cells #[.pointer (some ⟨bp, 0, none⟩), .pointer (some ⟨sb, 0, none⟩), .pointer (some ⟨cb, 0, none⟩)] 126)
  have G4 := heap_alloc_new w3 (Obj.cells #[.pointer (some ⟨bp, 0, none⟩), .pointer (some ⟨sb, 0, none⟩), .pointer (some ⟨cb, 0, none⟩)] 126)
  have A4 := I1.out.ab.quiet ((f2.trans F3).trans f4)
  have z1 := I1.out.ab.fr.size
  have z3 := F3.size
  have ls := (Array.getElem?_eq_some_iff.1 S2.box).1
  obtain ⟨K', R', k'⟩ := rg_of (B := w.heap.size) (bp := bp) G4 ((S2.quiet F3).quiet f4) (R3.quiet f4) (by omega) (fun t1 t2 h1 => (h1 rfl).elim) rfl ⟨by omega, by omega, by omega, fun t h1 => (h1 rfl).elim, fun t h1 => (h1 rfl).elim⟩
  refine ⟨_, rfl, bp, nb, by omega, hidI ?_⟩
  have hE := HB.out.2.E
  refine LvO.lv (sb := sb) (vb := cb) ⟨R', ⟨A4.puts (Fr.refl [] _) (fun g hm => nomatch hm) K' k', I1.out.env, I1.out.idle⟩, rfl, rfl, ⟨hn.symm, Or.inl ⟨rfl, fun p _ => rfl⟩⟩, by omega, by decide, by omega⟩
end Go.Proofs.YtopaeomjndblkaaGreat

namespace Go.Proofs.YtopaeomjndblkaaGreat
open Go.RowKit Go.Maps

set_option maxHeartbeats 16000000 in
set_option maxRecDepth 100000 in
theorem spaceLives_law (w : World) (bl : Int) (hbl : (Lit.int .i64 bl).wf = true) (ad : Option Addr) (nL cL : Nat) (L : List SDo) (hnL : L.length = nL) (hsL : nL ≤ cL ∧ cL < 9223372036854775808) (hD : SDosAt w ad L) :
    Calls Tryz.prog 10 #[.int .i64 bl, .slice ad nL cL] w fun e w' => e = .returned (.bool true) ∧ Fr [] w w' := by
  have HD := hidI hD
  have HL := hidI hnL
  clear hD hnL
  go_enter Tryz.func10, Tryz.ntmps10
  go_upto_if 11 with fail
  go_cut [1] from 12 (fun s1 wx => ∃ n c, s1 = .slice ad n c ∧ n ≤ 80 ∧ n ≤ nL ∧ wx = w)
  case first =>
    by_cases hlong : 80 < nL
    · have q0 : (80 : Int) < (nL : Int) := by omega
      obtain ⟨d, hd⟩ : ∃ d, L[0]? = some d := ⟨_, List.getElem?_eq_getElem (by have := HL.out; omega)⟩
      obtain ⟨_, b0, off, rfl, _⟩ := HD.out 0 d hd
      have q1 : (80 : Int) ≤ (cL : Int) := by omega
      clear hd
      go_wp2_with fail
      go_meet
      exact ⟨80, _, rfl, by omega, by omega, rfl⟩
    · have q0 : ¬ (80 : Int) < (nL : Int) := by omega
      go_wp2_with fail
      go_meet
      exact ⟨nL, _, rfl, by omega, by omega, rfl⟩
  case rest =>
    obtain ⟨n, c, rfl, hn8, hnL, rfl⟩ := hcut
    go_wp2_with (go_at_call 55; refine (lbegin_ok wc bl hbl).mono ?_; rintro e w2 ⟨gb, rfl, bp, nb, hnb, P0⟩)
    go_loopg [7] n (fun g s7 wx => ∃ i : Nat, i + g = n ∧ s7 = .int .i64 (i : Int) ∧ Hid (Lv wc wx gb bp nb (1000 + 1500 * i) (10 + i)))
    case atStart => exact ⟨0, by omega, rfl, hidI (P0.out.more (by omega) (by omega))⟩
    case round =>
      obtain ⟨i, hi, rfl, HS⟩ := hrel
      clear P0
      by_cases hlt : i < n
      · have q0 : (i : Int) < (n : Int) := by omega
        obtain ⟨g, rfl⟩ : ∃ g, gk = g + 1 := ⟨gk - 1, by omega⟩
        obtain ⟨d, hd⟩ : ∃ d, L[i]? = some d := ⟨_, List.getElem?_eq_getElem (by have := HL.out; omega)⟩
        obtain ⟨ok, b0, off, rfl, c0, c1, c2⟩ := (HD.out.kept HS.out.fr) i d hd
        have HCC : Hid (∀ w', Fr [] wc w' → w'.cell? ⟨b0, off + i * 3, none⟩ = some (.int .i64 d.op) ∧ w'.cell? ⟨b0, off + i * 3 + 1, none⟩ = some (.int .i64 d.page) ∧ w'.cell? ⟨b0, off + i * 3 + 2, none⟩ = some (.int .i64 d.which)) := hidI (fun w' f => by
          obtain ⟨_, b2, o2, e2, q0, q1, q2⟩ := (HD.out.kept f) i d hd
          cases e2
          exact ⟨q0, q1, q2⟩)
        have hop := hidI ok.op
        clear ok hd
        go_wp2_with (first
          | (go_at_call 56; refine (step_any HS.out (by omega) (by omega) hop.out).mono ?_; rintro e w3 ⟨rfl, P3⟩; obtain ⟨e0, e1, e2⟩ := HCC.out _ P3.out.fr)
          | (go_at_call 57; refine (P3.out.like _ _ _).mono ?_; rintro e w4 ⟨rfl, P4⟩))
        go_roundg g
        case measure => omega
        case rel => exact ⟨i + 1, by omega, by go_num, hidI (P4.out.more (by omega) (by omega))⟩
      · have q0 : ¬ (i : Int) < (n : Int) := by omega
        clear hlt
        obtain ⟨w5, hw5⟩ : ∃ w5, wr = w5 := ⟨_, rfl⟩
        rw [hw5] at HS ⊢
        clear hw5
        obtain ⟨N, hN⟩ : ∃ N : Nat, (N : Int) = (nb : Int) - 2 - (nb : Int) / 2 := by
          obtain ⟨_, N, _, h, _⟩ := HS.out.pages
          exact ⟨N, h⟩
        have H5 : Hid (Lv wc w5 gb bp nb 200000 200) := hidI (HS.out.more (by omega) (by omega))
        have HN := hidI hN
        clear HS hN
        go_wp2_with fail
        clear q0
        go_loopg [8] (N + 2) (fun g s8 wx => ∃ (i : Nat) (pv : Int), i + g = N + 2 ∧ (i : Int) - 1 = pv ∧ s8 = .int .i64 pv ∧ Hid (Lv wc wx gb bp nb 200000 200))
        case atStart => exact ⟨0, -1, by omega, rfl, rfl, H5⟩
        case round =>
          obtain ⟨i, pv, hi, hpv, rfl, HS⟩ := hrel
          obtain ⟨sb, N2, hN2, eN2, c1, c0⟩ := HS.out.pages
          obtain rfl : N2 = N := by have := HN.out; omega
          have HB := hidI (And.intro hpv hi)
          have b0 : -1 ≤ pv ∧ pv ≤ 65537 := by omega
          have hw : IntKind.i64.wrap (pv + 1) = pv + 1 := wrapI _ (by omega) (by omega)
          clear H5 eN2 hpv
          by_cases hlt : pv ≤ (N2 : Int)
          · obtain ⟨g, rfl⟩ : ∃ g, gk = g + 1 := ⟨gk - 1, by have := HB.out.1; omega⟩
            clear hi
            go_wp2_with (go_at_call 57; refine (HS.out.like _ _ _).mono ?_; rintro e w6 ⟨rfl, P6⟩)
            go_roundg g
            case measure => omega
            case rel => exact ⟨i + 1, pv + 1, by have := HB.out.2; omega, by have := HB.out.1; omega, rfl, P6⟩
          · clear hi
            go_wp2_with (go_at_call 58; refine (sawake_ok _).mono ?_; rintro e w7 ⟨rfl, f7⟩)
            go_ret
            exact ⟨rfl, HS.out.fr.trans f7⟩
end Go.Proofs.YtopaeomjndblkaaGreat

