/-
  PageLives: the law, for whatever comes in.
-/
import Derived.Test.YtlfpoeimgoikkaaGStep
import Derived.Test.YtlfpoeimgoikkaaGTellsB
import Derived.Test.YtlfpoeimgoikkaaGAwake
namespace Go.Proofs.Ytlfpoeimgoikkaa
open Go.RowKit Go.Maps

set_option maxHeartbeats 400000 in
set_option maxRecDepth 100000 in
theorem copyBytes_new (w : World) (ad : Option Addr) (n c : Nat) (l : List UInt8) (h : SlAt w ad n c l) (hn : n ≤ 1000000) (hnil : ad = none → c = 0) :
    Calls Try.prog 17 #[.slice ad n c] w fun e w' => ∃ ad' cap', e = .returned (.slice ad' n cap') ∧ PageAt w' ad' n cap' l ∧ (∀ b, b ∈ blkOf ad' → w.heap.size ≤ b ∧ b < w'.heap.size) ∧ Fr [] w w' := by
  obtain ⟨i, hi, hz, hs, hb⟩ := info5'
  cases ad with
  | none =>
    obtain rfl : c = 0 := hnil rfl
    obtain rfl : n = 0 := by have := h.cap; omega
    go_enter Try.func17, Try.ntmps17
    go_wp2_with (refine wpList_append_own_none rfl _ _ 22 rfl w.heap.size 5 i 1 Try.underlying22 hi _ 0 [] rfl (World.ownsRow_nil _ _ _ _) rfl ?_)
    go_ret
    exact ⟨none, 0, rfl, ⟨h, fun e => absurd e (by omega)⟩, (fun b hb => by simp [blkOf] at hb), Fr.refl _ _⟩
  | some a0 =>
    have HL : Hid (l.length = n) := h.len
    go_enter Try.func17, Try.ntmps17
    go_wp2_with (refine wp_app rfl _ _ rfl w _ 0 [] rfl ⟨World.ownsRow_nil _ _ _ _, Fr.refl _ _⟩ _ n c l rfl HL.out h.bytes (by omega) (fun _ => ⟨_, rfl⟩) ?_; intro v2 w2 o2; rw [Nat.zero_add, List.nil_append] at o2)
    go_ret
    by_cases h0 : 0 < n
    · obtain ⟨g, cap, rfl, row, hg⟩ := own_row o2 HL.out h0
      refine ⟨_, cap, rfl, ⟨⟨HL.out, row.bytes, by have := row.cap; rw [HL.out] at this; exact this⟩, fun _ => ⟨g, rfl, row⟩⟩, (fun b hb => ?_), o2.2⟩
      have : b = g := by simpa [blkOf] using hb
      subst this
      exact ⟨hg, row.lt⟩
    · obtain rfl : n = 0 := by omega
      have e0 : l = [] := List.eq_nil_of_length_eq_zero HL.out
      subst e0
      rcases o2.1.2 with ⟨rfl, _⟩ | ⟨g, cap, cur, rfl, hb, hg, _⟩
      · exact ⟨none, 0, rfl, ⟨⟨rfl, BytesAt.nil _ _, Nat.le_refl _⟩, fun e => absurd e (by omega)⟩, (fun b hb => by simp [blkOf] at hb), o2.2⟩
      · refine ⟨_, cap, rfl, ⟨⟨rfl, BytesAt.nil _ _, Nat.zero_le _⟩, fun e => absurd e (by omega)⟩, (fun b hb' => ?_), o2.2⟩
        have : b = g := by simpa [blkOf] using hb'
        subst this
        exact ⟨hb, (Array.getElem?_eq_some_iff.1 hg).1⟩

/-- What is so behind each step of a life. -/
structure LvSt (w wr : World) (gp gq cq : Nat) (a1 a2 : Option Addr) (n c1 c2 : Nat) (lp la : List UInt8) : Prop where
  p1 : PageAt wr (some ⟨gp, 0, none⟩) 512 512 lp
  p2 : PageAt wr (some ⟨gq, 0, none⟩) 512 cq lp
  q1 : PageAt wr a1 n c1 la
  q2 : PageAt wr a2 n c2 la
  fr : Fr [] w wr
/-- Where the four lie. -/
structure LvAt (w wr : World) (gp gq : Nat) (a1 a2 : Option Addr) : Prop where
  atp : w.heap.size ≤ gp ∧ gp < wr.heap.size
  atq : w.heap.size ≤ gq ∧ gq < wr.heap.size
  pq : gp ≠ gq
  b1 : ∀ b, b ∈ blkOf a1 → w.heap.size ≤ b ∧ b < wr.heap.size ∧ b ≠ gp ∧ b ≠ gq
  b2 : ∀ b, b ∈ blkOf a2 → w.heap.size ≤ b ∧ b < wr.heap.size ∧ b ≠ gp ∧ b ≠ gq ∧ b ∉ blkOf a1
theorem blk_one {g b : Nat} (h : b ∈ blkOf (some ⟨g, 0, none⟩)) : b = g := by simpa [blkOf] using h
theorem LvAt.ap {w wr : World} {gp gq : Nat} {a1 a2 : Option Addr} (h : LvAt w wr gp gq a1 a2) (b : Nat) (h1 : b ∈ blkOf (some ⟨gp, 0, none⟩)) (h2 : b ∈ blkOf (some ⟨gq, 0, none⟩)) : False := h.pq ((blk_one h1).symm.trans (blk_one h2))
theorem LvAt.w1 {w wr : World} {gp gq : Nat} {a1 a2 : Option Addr} (h : LvAt w wr gp gq a1 a2) (b : Nat) (h1 : b ∈ blkOf (some ⟨gp, 0, none⟩)) : w.heap.size ≤ b ∧ b < wr.heap.size := by rw [blk_one h1]; exact h.atp
theorem LvAt.w2 {w wr : World} {gp gq : Nat} {a1 a2 : Option Addr} (h : LvAt w wr gp gq a1 a2) (b : Nat) (h1 : b ∈ blkOf (some ⟨gq, 0, none⟩)) : w.heap.size ≤ b ∧ b < wr.heap.size := by rw [blk_one h1]; exact h.atq
/-- The first pair is written: the second one stays. -/
theorem LvSt.first {w wr wt : World} {gp gq cq : Nat} {a1 a2 : Option Addr} {n c1 c2 : Nat} {lp la lp' : List UInt8} (h : LvSt w wr gp gq cq a1 a2 n c1 c2 lp la) (at' : LvAt w wr gp gq a1 a2) (f : Fr (blkOf (some ⟨gp, 0, none⟩) ++ blkOf (some ⟨gq, 0, none⟩)) wr wt) (p1 : PageAt wt (some ⟨gp, 0, none⟩) 512 512 lp') (p2 : PageAt wt (some ⟨gq, 0, none⟩) 512 cq lp') : LvSt w wt gp gq cq a1 a2 n c1 c2 lp' la := by
  have hm : ∀ b, b ∈ blkOf (some ⟨gp, 0, none⟩) ++ blkOf (some ⟨gq, 0, none⟩) → b = gp ∨ b = gq := fun b hb => by
    rcases List.mem_append.1 hb with h | h
    · exact Or.inl (blk_one h)
    · exact Or.inr (blk_one h)
  refine ⟨p1, p2, h.q1.kept f (fun b hb hx => ?_), h.q2.kept f (fun b hb hx => ?_), h.fr.then f (fun b hb hx => ?_)⟩
  · have := at'.b1 b hb; rcases hm b hx with e | e
    · exact this.2.2.1 e
    · exact this.2.2.2 e
  · have := at'.b2 b hb; rcases hm b hx with e | e
    · exact this.2.2.1 e
    · exact this.2.2.2.1 e
  · have := at'.atp; have := at'.atq; rcases hm b hx with e | e <;> omega
/-- The second pair is written: the first one stays. -/
theorem LvSt.second {w wr wt : World} {gp gq cq : Nat} {a1 a2 : Option Addr} {n c1 c2 : Nat} {lp la la' : List UInt8} (h : LvSt w wr gp gq cq a1 a2 n c1 c2 lp la) (at' : LvAt w wr gp gq a1 a2) (f : Fr (blkOf a1 ++ blkOf a2) wr wt) (q1 : PageAt wt a1 n c1 la') (q2 : PageAt wt a2 n c2 la') : LvSt w wt gp gq cq a1 a2 n c1 c2 lp la' := by
  have hm : ∀ b, b ∈ blkOf a1 ++ blkOf a2 → w.heap.size ≤ b ∧ b ≠ gp ∧ b ≠ gq := fun b hb => by
    rcases List.mem_append.1 hb with h | h
    · have := at'.b1 b h; exact ⟨this.1, this.2.2⟩
    · have := at'.b2 b h; exact ⟨this.1, this.2.2.1, this.2.2.2.1⟩
  exact ⟨h.p1.kept f (fun b hb hx => (hm b hx).2.1 (blk_one hb)), h.p2.kept f (fun b hb hx => (hm b hx).2.2 (blk_one hb)), q1, q2, h.fr.then f (fun b hb hx => by have := (hm b hx).1; omega)⟩
theorem LvSt.kept {w wr wt : World} {gp gq cq : Nat} {a1 a2 : Option Addr} {n c1 c2 : Nat} {lp la : List UInt8} (h : LvSt w wr gp gq cq a1 a2 n c1 c2 lp la) (f : Fr [] wr wt) : LvSt w wt gp gq cq a1 a2 n c1 c2 lp la :=
  ⟨h.p1.kept f (by simp), h.p2.kept f (by simp), h.q1.kept f (by simp), h.q2.kept f (by simp), h.fr.trans f⟩
theorem LvAt.on {w wr wt : World} {gp gq : Nat} {a1 a2 : Option Addr} (h : LvAt w wr gp gq a1 a2) (hs : wr.heap.size ≤ wt.heap.size) : LvAt w wt gp gq a1 a2 :=
  ⟨⟨h.atp.1, by have := h.atp.2; omega⟩, ⟨h.atq.1, by have := h.atq.2; omega⟩, h.pq, fun b hb => by have := h.b1 b hb; exact ⟨this.1, by omega, this.2.2⟩, fun b hb => by have := h.b2 b hb; exact ⟨this.1, by omega, this.2.2⟩⟩

theorem DoOk.kept {w w' : World} {d : DoV} (h : DoOk w d) (f : Fr [] w w') : DoOk w' d := { h with cell := h.cell.kept f (by simp) }

set_option maxHeartbeats 2000000 in
set_option maxRecDepth 100000 in
theorem lives_short (w : World) (k : UInt8) (X : Int) (hX : X = k.toNat) (sa : Option Addr) (n sc : Nat) (ls : List UInt8) (hsl : SlAt w sa n sc ls) (hn : n ≤ 5000) (hsz : sa = none → sc = 0) (ad : Option Addr) (L : List DoV) (len cap : Nat) (hlen : L.length = len) (hshort : len ≤ 120) (hD : DosAt w ad L) :
    Calls Try.prog 4 #[.int .u8 X, .slice sa n sc, .slice ad len cap] w fun e w' => e = .returned (.bool true) ∧ Fr [] w w' := by
  have HX := hidI hX
  have HSL := hidI hsl
  have HLn := hidI hlen
  have HSZ := hidI hsz
  clear hX hsl hlen hsz
  have hs' : ¬ (120 : Int) < len := by omega
  have hn' : ¬ (5000 : Int) < n := by omega
  go_enter Try.func4, Try.ntmps4
  go_wp2_with fail
  refine (new_anyI _ k X HX.out).mono ?_
  rintro e w1 ⟨gp, rfl, b1, hg1, f1⟩
  go_wp2_with fail
  refine (refNew_any _ k X HX.out).mono ?_
  rintro e w2 ⟨gq, cq, rfl, r2, hg2, f2⟩
  go_wp2_with fail
  refine (copyBytes_new _ sa n sc ls (HSL.out.kept (f1.trans f2) (by simp)) (by omega) HSZ.out).mono ?_
  rintro e w3 ⟨a3, c3, rfl, p3, hb3, f3⟩
  go_wp2_with fail
  refine (copyBytes_new _ sa n sc ls (HSL.out.kept (f1.trans (f2.trans f3)) (by simp)) (by omega) HSZ.out).mono ?_
  rintro e w4 ⟨a4, c4, rfl, p4, hb4, f4⟩
  have hgp := b1.lt
  have hgq := r2.lt
  have z1 := f1.size
  have z2 := f2.size
  have z3 := f3.size
  have z4 := f4.size
  have LA : Hid (LvAt w w4 gp gq a3 a4) := ⟨⟨by omega, by omega⟩, ⟨by omega, by omega⟩, by omega, fun b hb => by have := hb3 b hb; exact ⟨by omega, by omega, by omega, by omega⟩, fun b hb => by have := hb4 b hb; exact ⟨by omega, by omega, by omega, by omega, fun h => by have := hb3 b h; omega⟩⟩
  have r1 : RowB w1 gp 512 (pgB k 0 []) := b1.row
  have ST0 : Hid (LvSt w w4 gp gq cq a3 a4 n c3 c4 (pgB k 0 []) ls) := ⟨PageAt.of_row (r1.kept (f2.trans (f3.trans f4)) (by simp)) (pgB_length _ _ _ (by decide)), PageAt.of_row (r2.kept (f3.trans f4) (by simp)) (pgB_length _ _ _ (by decide)), p3.kept f4 (by simp), p4, f1.trans (f2.trans (f3.trans f4))⟩
  clear b1 hg1 f1 r2 hg2 f2 p3 hb3 f3 p4 hb4 f4 hgp hgq z1 z2 z3 z4 r1
  go_wp2_with fail
  go_loopw [11] (fun iv wr => ∃ (j : Nat) (lp la : List UInt8), j ≤ len ∧ iv = .int .i64 j ∧ LvSt w wr gp gq cq a3 a4 n c3 c4 lp la ∧ w4.heap.size ≤ wr.heap.size) (fun iv _ => len - (intOf iv).toNat)
  case atStart => exact ⟨0, _, _, by omega, rfl, ST0.out, Nat.le_refl _⟩
  case round =>
    obtain ⟨j, lp, la, hj, rfl, st, hsz⟩ := hrel
    have ST := hidI st
    clear st
    by_cases hjl : j < len
    · have hjl' : (j : Int) < len := by omega
      obtain ⟨d, hd⟩ : ∃ d, L[j]? = some d := ⟨_, List.getElem?_eq_getElem (by rw [HLn.out]; exact hjl)⟩
      have hDOK := (hD j d hd).1
      have KD : Hid (∀ w', Fr [] w w' → ∃ db doff, ad = some ⟨db, doff, none⟩ ∧ w'.cell? ⟨db, doff + j * 4, none⟩ = some (.int .i64 d.op) ∧ w'.cell? ⟨db, doff + j * 4 + 1, none⟩ = some (.int .i64 d.slot) ∧ w'.cell? ⟨db, doff + j * 4 + 2, none⟩ = some (.int .i64 d.next) ∧ w'.cell? ⟨db, doff + j * 4 + 3, none⟩ = some (.slice d.ca d.cl d.cc)) := fun w' f => ((hD.kept f) j d hd).2
      obtain ⟨dop, dslot, dnext, ca, cl, cc, C⟩ := d
      obtain ⟨db, doff, rfl, c0, c1, c2, c3'⟩ := KD.out _ ST.out.fr
      have c0' : wr.cell? ⟨db, doff + j * 4, none⟩ = some (.int .i64 dop) := c0
      have c1' : wr.cell? ⟨db, doff + j * 4 + 1, none⟩ = some (.int .i64 dslot) := c1
      have c2' : wr.cell? ⟨db, doff + j * 4 + 2, none⟩ = some (.int .i64 dnext) := c2
      have c3'' : wr.cell? ⟨db, doff + j * 4 + 3, none⟩ = some (.slice ca cl cc) := c3'
      have DOK : Hid (DoOk w ⟨dop, dslot, dnext, ca, cl, cc, C⟩) := hDOK
      have hcl : cl < 9223372036854775808 := hDOK.short
      have HCB : Hid (∀ b off, ca = some ⟨b, off, none⟩ → 0 < cl → b < w.heap.size) := by
        intro b off e h0
        have hcell : SlAt w ca cl cc C := hDOK.cell
        obtain ⟨b', o', e', hc⟩ := hcell.bytes.at 0 (by rw [hcell.len]; exact h0)
        rw [e] at e'
        cases e'
        exact block_lt_of_cell hc
      clear c0 c1 c2 c3' hd hDOK
      by_cases hbig : 5000 < cl
      · have hbig' : (5000 : Int) < cl := by omega
        go_wp2_with fail
        refine (awake_any _).mono ?_
        rintro e w5 ⟨rfl, f5⟩
        go_wp2_with fail
        go_ret
        exact ⟨rfl, ST.out.fr.trans f5⟩
      · have hbig' : ¬ (5000 : Int) < cl := by omega
        have LW := hidI (LA.out.on hsz)
        go_wp2_with fail
        refine (step_any _ _ _ 512 512 cq lp ST.out.p1 ST.out.p2 LW.out.ap w.heap.size LW.out.w1 LW.out.w2 dop dslot dnext ca cl cc C (DOK.out.kept ST.out.fr) HCB.out (by omega) (by omega)).mono ?_
        rintro e w5 ⟨rfl, lp', pp5, pq5, f5⟩
        have ST5 := hidI (ST.out.first LW.out f5 pp5 pq5)
        have z5 := f5.size
        have LW5 := hidI (LW.out.on z5)
        obtain ⟨db5, doff5, e5, d0, d1, d2, d3⟩ := KD.out _ ST5.out.fr
        cases e5
        have d1' : w5.cell? ⟨db, doff + j * 4 + 1, none⟩ = some (.int .i64 dslot) := d1
        clear pp5 pq5 f5 c0' c1' c2' c3'' d0 d1 d2 d3
        go_wp2_with fail
        refine (tells_any _ _ _ _ lp' dslot ST5.out.p1.sl).mono ?_
        rintro e w6 ⟨rfl, f6⟩
        have ST6 := hidI (ST5.out.kept f6)
        have LW6 := hidI (LW5.out.on f6.size)
        have z6 := f6.size
        obtain ⟨db6, doff6, e6, d0, d1, d2, d3⟩ := KD.out _ ST6.out.fr
        cases e6
        have g0 : w6.cell? ⟨db, doff + j * 4, none⟩ = some (.int .i64 dop) := d0
        have g1 : w6.cell? ⟨db, doff + j * 4 + 1, none⟩ = some (.int .i64 dslot) := d1
        have g2 : w6.cell? ⟨db, doff + j * 4 + 2, none⟩ = some (.int .i64 dnext) := d2
        have g3 : w6.cell? ⟨db, doff + j * 4 + 3, none⟩ = some (.slice ca cl cc) := d3
        clear f6 d1' d0 d1 d2 d3
        go_wp2_with fail
        refine (step_any _ _ _ n c3 c4 la ST6.out.q1 ST6.out.q2 (fun b h1 h2 => (LW6.out.b2 b h2).2.2.2.2 h1) w.heap.size (fun b h => ⟨(LW6.out.b1 b h).1, (LW6.out.b1 b h).2.1⟩) (fun b h => ⟨(LW6.out.b2 b h).1, (LW6.out.b2 b h).2.1⟩) dop dslot dnext ca cl cc C (DOK.out.kept ST6.out.fr) HCB.out (by omega) (by omega)).mono ?_
        rintro e w7 ⟨rfl, la', qa7, qb7, f7⟩
        have ST7 := hidI (ST6.out.second LW6.out f7 qa7 qb7)
        have z7 := f7.size
        clear qa7 qb7 f7 g0 g1 g2 g3
        go_wp2_with fail
        exact ⟨⟨j + 1, lp', la', by omega, by go_num, ST7.out, by omega⟩, by simp [intOf]; omega⟩
    · obtain rfl : j = len := by omega
      go_wp2_with fail
      refine (awake_any _).mono ?_
      rintro e w5 ⟨rfl, f5⟩
      go_wp2_with fail
      go_ret
      exact ⟨rfl, ST.out.fr.trans f5⟩

set_option maxHeartbeats 400000 in
set_option maxRecDepth 100000 in
theorem lives_long (w : World) (X : Int) (sa : Option Addr) (n sc : Nat) (ad : Option Addr) (len cap : Nat) (h : 120 < len ∨ 5000 < n) (hl : len < 9223372036854775808) (hn : n < 9223372036854775808) :
    Calls Try.prog 4 #[.int .u8 X, .slice sa n sc, .slice ad len cap] w fun e w' => e = .returned (.bool true) ∧ Fr [] w w' := by
  by_cases h1 : 120 < len
  · have h1' : (120 : Int) < len := by omega
    clear h
    go_enter Try.func4, Try.ntmps4
    go_wp2_with fail
    refine (awake_any _).mono ?_
    rintro e w1 ⟨rfl, f1⟩
    go_wp2_with fail
    go_ret
    exact ⟨rfl, f1⟩
  · have h1' : ¬ (120 : Int) < len := by omega
    have h2' : (5000 : Int) < n := by omega
    clear h
    go_enter Try.func4, Try.ntmps4
    go_wp2_with fail
    refine (awake_any _).mono ?_
    rintro e w1 ⟨rfl, f1⟩
    go_wp2_with fail
    go_ret
    exact ⟨rfl, f1⟩

theorem byte_of {x : Int} (h : (Lit.int .u8 x).wf = true) : x = ((UInt8.ofNat x.toNat).toNat : Int) := by
  have := u8_bounds h
  rw [u8_ofNat_toNat]
  omega

theorem pageLives_law (w : World) (X : Int) (hX : (Lit.int .u8 X).wf = true) (sa : Option Addr) (n sc : Nat) (ls : List UInt8) (hB : SlAt w sa n sc ls) (hn : n < 9223372036854775808) (hz : sa = none → sc = 0) (ad : Option Addr) (len cap : Nat) (L : List DoV) (hL : L.length = len) (hl : len < 9223372036854775808) (hD : DosAt w ad L) :
    Calls Try.prog 4 #[.int .u8 X, .slice sa n sc, .slice ad len cap] w fun e w' => e = .returned (.bool true) ∧ Fr [] w w' := by
  by_cases h : len ≤ 120 ∧ n ≤ 5000
  · exact lives_short w _ X (byte_of hX) sa n sc ls hB h.2 hz ad L len cap hL h.1 hD
  · exact lives_long w X sa n sc ad len cap (by omega) hl hn
end Go.Proofs.Ytlfpoeimgoikkaa
