/-
  The chapter's example of a space.
-/
import Derived.Test.YtopaeomjndblkaaGreatY47Z
import Derived.Test.YtopaeomjndblkaaGreatY48Z
namespace Go.Proofs.YtopaeomjndblkaaGreat
open Go.RowKit Go.Maps
open Pg (SpE diffS byteAt)

/-- p is the lowest free page of n. -/
def LowF (V : Pages) (n p : Nat) : Prop := p < n ∧ MkB V p = false ∧ ∀ q, q < p → MkB V q = true
def NoneF (V : Pages) (n : Nat) : Prop := ∀ q, q < n → MkB V q = true
theorem low_or (V : Pages) (n : Nat) : NoneF V n ∨ ∃ p, LowF V n p := by
  induction n with
  | zero => exact Or.inl fun q hq => absurd hq (by omega)
  | succ n ih =>
    rcases ih with h | ⟨p, h1, h2, h3⟩
    · by_cases e : MkB V n = true
      · exact Or.inl fun q hq => by
          by_cases e2 : q = n
          · rw [e2]; exact e
          · exact h q (by omega)
      · exact Or.inr ⟨n, by omega, by simpa using e, h⟩
    · exact Or.inr ⟨p, by omega, h2, h3⟩
theorem LowF.uniq {V : Pages} {n p q : Nat} (h : LowF V n p) (k : LowF V n q) : p = q := by
  rcases Nat.lt_trichotomy p q with e | e | e
  · have := k.2.2 p e
    rw [h.2.1] at this
    cases this
  · exact e
  · have := h.2.2 q e
    rw [k.2.1] at this
    cases this
theorem runLow_none {V : Pages} {n : Nat} {s : Int} (h : NoneF V n) : runF V nxLow false 0 n s = s := by
  have h1 := runF_skip (V := V) (nx := nxLow) (go := true) (n := n) (s := s) n 0 (fun i hi => by rw [Nat.zero_add]; exact h i hi)
  have h2 := runF_skip (V := V) (nx := nxLow) (go := false) (n := n) (s := s) n 0 (fun i hi => by rw [Nat.zero_add]; exact h i hi)
  rw [Nat.sub_zero, Nat.zero_add, runF_out (Nat.le_refl _)] at h2
  exact h2
theorem runLow_some {V : Pages} {n p : Nat} {s : Int} (h : LowF V n p) : runF V nxLow false 0 n s = (p : Int) := by
  have h2 := runF_skip (V := V) (nx := nxLow) (go := false) (n := n) (s := s) p 0 (fun i hi => by rw [Nat.zero_add]; exact h.2.2 i hi)
  rw [Nat.sub_zero, Nat.zero_add, runF_end h.1 h.2.1] at h2
  exact h2
theorem runCnt {V : Pages} {n : Nat} (hn : n ≤ 65536) : ∀ (r j : Nat) (s : Int), j + r = n → s = (cntF V j : Int) → runF V nxCnt true j r s = (cntF V n : Int)
  | 0, j, s, h, hs => by
    have : j = n := by omega
    subst this
    exact hs
  | r + 1, j, s, h, hs => by
    have hle := cntF_le V j
    have es : cntF V (j + 1) = cntF V j + if MkB V j then 0 else 1 := rfl
    unfold runF
    by_cases e : MkB V j = true
    · rw [if_pos e]
      exact runCnt hn r (j + 1) s (by omega) (by rw [hs, es, if_pos e]; omega)
    · rw [if_neg e, if_pos rfl]
      refine runCnt hn r (j + 1) _ (by omega) ?_
      unfold nxCnt
      rw [es, if_neg e, hs, wrapI _ (by omega) (by omega)]
      omega
section
variable {w0 w : World} {bp : Nat} {b : Bk} {K : List (Nat × Obj)} (h : Ab w0 w bp b K)
include h
set_option maxHeartbeats 2000000 in
set_option maxRecDepth 100000 in
theorem slowest_any {V : Pages} (hv : Shows b.x V) (hp : 3 ≤ b.x.pages) (hp2 : b.x.pages ≤ 65536) (h0 : MkB V 0 = true) :
    Calls Tryz.prog 155 #[.pointer (some ⟨bp, 0, none⟩)] w fun e w' => ∃ b', ((e = .returned (.tuple #[.int .i64 0, .int .i64 5]) ∧ NoneF V b.x.pages) ∨ ∃ p : Nat, e = .returned (.tuple #[.int .i64 (p : Int), .int .i64 0]) ∧ LowF V b.x.pages p) ∧ Hid (Rd w0 w' bp K b b') := by
  have HH := hidI h
  have HV := hidI hv
  clear h hv
  have hf0 := HH.out.fresh (Nat.le_refl _)
  have fa : Fr [] w (w.alloc (.cells #[.int .i64 0] 3)) := (Fr.refl [] w).alloc _
  have E1 := hidI (seachLow (HH.out.quiet fa) HV.out hp hp2 w.heap.size 0 (heap_alloc_new w _) hf0.1 hf0.2.2)
  clear fa hf0
  go_enter Tryz.func155, Tryz.ntmps155
  go_wp2_with fail
  refine E1.out.mono ?_
  rintro e w2 ⟨rfl, b', P⟩
  have hc := P.out.2.c0
  rcases low_or V b.x.pages with hn | ⟨p, hn⟩
  · rw [runLow_none hn] at hc
    have HN := hidI hn
    clear hn
    go_wp2_with fail
    go_ret2
    exact ⟨b', Or.inl ⟨rfl, HN.out⟩, hidI P.out.1⟩
  · rw [runLow_some hn] at hc
    have hp0 : ((p : Int) == 0) = false := by
      rw [beq_eq_false_iff_ne]
      intro e
      have h1 := hn.2.1
      have e2 : p = 0 := by omega
      rw [e2, h0] at h1
      cases h1
    have HN := hidI hn
    clear hn h0
    go_wp2_with fail
    go_ret2
    exact ⟨b', Or.inr ⟨p, rfl, HN.out⟩, hidI P.out.1⟩
set_option maxHeartbeats 2000000 in
set_option maxRecDepth 100000 in
theorem sfree_any {V : Pages} (hv : Shows b.x V) (hp : 3 ≤ b.x.pages) (hp2 : b.x.pages ≤ 65536) (hd : IsHd b.x.pages (V 0)) :
    Calls Tryz.prog 61 #[.pointer (some ⟨bp, 0, none⟩)] w fun e w' => ∃ b', e = .returned (.tuple #[.int .i64 (cntF V b.x.pages : Int), .int .i64 0]) ∧ Hid (Rd w0 w' bp K b b') := by
  have HX := rd_head h hv (by omega) (by omega) hd
  have HV := hidI hv
  clear h hv
  go_enter Tryz.func61, Tryz.ntmps61
  go_wp2_with (go_at_call 151; refine HX.mono ?_; rintro e w1 ⟨g, b1, rfl, P⟩)
  have hf0 := P.out.1.ab.fresh (Nat.le_refl _)
  have fa : Fr [] w1 (w1.alloc (.cells #[.int .i64 0] 3)) := (Fr.refl [] w1).alloc _
  have ep : b1.x.pages = b.x.pages := P.out.1.tr.pages
  have E1 := seachCnt (P.out.1.ab.quiet fa) (P.out.1.sh V HV.out) (by omega) (by omega) w1.heap.size 0 (heap_alloc_new w1 _) hf0.1 hf0.2.2
  rw [ep] at E1
  have E2 := hidI E1
  have HP2 := hidI hp2
  clear fa hf0 E1 HX ep hp2
  refine E2.out.mono ?_
  rintro e w2 ⟨rfl, b2, P2⟩
  have hc := P2.out.2.c0
  have hcn : runF V nxCnt true 0 b.x.pages 0 = (cntF V b.x.pages : Int) := runCnt HP2.out b.x.pages 0 0 (by omega) rfl
  rw [hcn] at hc
  have HCN := hidI hcn
  clear hcn
  go_wp2_with fail
  go_ret2
  exact ⟨b2, rfl, hidI (P.out.1.trans P2.out.1)⟩
end
end Go.Proofs.YtopaeomjndblkaaGreat

namespace Go.Proofs.YtopaeomjndblkaaGreat
open Go.RowKit Go.Maps
open Pg (SpE diffS byteAt)

section
variable {w0 w : World} {bp : Nat} {K : List (Nat × Obj)} {nb : Nat} {m : Mst} {U : Pages} {b : Bk} {H : List Ch} {V : Pages} (h : In w0 w bp K nb m U b H V)
include h
set_option maxHeartbeats 2000000 in
set_option maxRecDepth 100000 in
theorem stake_none (sp : Sp b.x.pages V) (hn : NoneF V b.x.pages) :
    Calls Tryz.prog 62 #[.pointer (some ⟨bp, 0, none⟩)] w fun e w' => e = .returned (.tuple #[.int .i64 0, .int .i64 5]) ∧ ∃ b', Hid (Did w0 w' bp K nb m U b H V 0 b' H) := by
  have hpg := h.pg3
  have WX := swithin_in h.ab (by omega) h.tx.st
  have HX := rd_head h.ab h.tx.sh (by omega) (by omega) sp.hd
  have HH := hidI h
  have HS := hidI sp
  have HN := hidI hn
  clear h sp hn
  go_enter Tryz.func62, Tryz.ntmps62
  go_wp2_with (first
    | (go_at_call 154; refine WX.mono ?_; rintro e wz ⟨rfl, hz⟩; rw [hz]; clear hz)
    | (go_at_call 151; refine HX.mono ?_; rintro e w1 ⟨g, b1, rfl, P⟩))
  have ep : b1.x.pages = b.x.pages := P.out.1.tr.pages
  have LX := slowest_any P.out.1.ab (P.out.1.sh V HH.out.tx.sh) (by omega) (by omega) (HS.out.own 0 (by unfold ownN; omega))
  rw [ep] at LX
  refine LX.mono ?_
  rintro e w2 ⟨b2, (⟨rfl, _⟩ | ⟨p, _, hl⟩), P2⟩
  · clear LX HX WX
    go_wp2_with fail
    go_ret2
    exact ⟨rfl, b2, hidI ((P.out.1.trans P2.out).did HH.out)⟩
  · have h1 := HN.out p hl.1
    rw [hl.2.1] at h1
    cases h1
set_option maxHeartbeats 4000000 in
set_option maxRecDepth 100000 in
theorem stake_low (sp : Sp b.x.pages V) {p : Nat} (hl : LowF V b.x.pages p) (c : Nat) (hc : ∀ S : List SpE, S.map (fun e => (e.off, e.off + e.n)) = diffS (V p) (zs 512) → sumN S ≤ (c : Int)) (hP : phN b H + c ≤ 380000) :
    Calls Tryz.prog 62 #[.pointer (some ⟨bp, 0, none⟩)] w fun e w' => ∃ q r : Int, e = .returned (.tuple #[.int .i64 q, .int .i64 r]) ∧ Hid ((r = 5 ∧ q = 0 ∧ capN b < phN b H + 35 + c + 97 ∧ ∃ b' H' V', (V' = V ∨ V' = setPg V p (zs 512)) ∧ Did w0 w' bp K nb m U b H V' c b' H') ∨ (r = 0 ∧ q = (p : Int) ∧ ∃ b' H', Did w0 w' bp K nb m U b H (takeV V p) (c + 97) b' H')) := by
  have hpg := h.pg3
  have WX := swithin_in h.ab (by omega) h.tx.st
  have HX := rd_head h.ab h.tx.sh (by omega) (by omega) sp.hd
  have HH := hidI h
  have HS := hidI sp
  have HL := hidI hl
  have HC := hidI hc
  have HPH := hidI hP
  clear h sp hl hc hP
  go_enter Tryz.func62, Tryz.ntmps62
  go_wp2_with (first
    | (go_at_call 154; refine WX.mono ?_; rintro e wz ⟨rfl, hz⟩; rw [hz]; clear hz)
    | (go_at_call 151; refine HX.mono ?_; rintro e w1 ⟨g, b1, rfl, P⟩))
  have ep : b1.x.pages = b.x.pages := P.out.1.tr.pages
  have LX := slowest_any P.out.1.ab (P.out.1.sh V HH.out.tx.sh) (by omega) (by omega) (HS.out.own 0 (by unfold ownN; omega))
  rw [ep] at LX
  clear WX HX
  refine LX.mono ?_
  rintro e w2 ⟨b2, (⟨_, hn⟩ | ⟨p', rfl, hl⟩), P2⟩
  · have h1 := hn p HL.out.1
    rw [HL.out.2.1] at h1
    cases h1
  · obtain rfl : p' = p := hl.uniq HL.out
    have D2 := hidI ((P.out.1.trans P2.out).did HH.out)
    have HPP := hidI (show b2.x.pages = b.x.pages by rw [P2.out.tr.pages]; exact ep)
    clear LX hl ep P P2
    go_wp2_with (refine wp_make55 rfl _ _ rfl rfl (by rfl) ?_; intro w3 g g0 bl f3)
    have I3 := D2.out.i.quiet f3
    have hfr := (D2.out.i.ab.fresh g0).2.1
    have hph : phN b2 H ≤ phN b H := by have := D2.out.ph; omega
    have PX := hidI (in_put (c := (c : Int)) I3 (page := p') (by rw [HPP.out]; exact HL.out.1) (zs_length 512) (Nat.le_refl _) bl.bytes hfr (by have := HPH.out; omega) HC.out)
    have HPH2 := hidI hph
    clear I3 hfr bl f3 hph
    refine PX.out.mono ?_
    rintro e w4 ⟨r, rfl, P4⟩
    rcases P4.out with ⟨rfl, hf, b4, D4⟩ | ⟨rfl, b4, H4, D4⟩
    · have HD4 := hidI (D2.out.trans D4)
      have HF := hidI hf
      clear D4 hf
      go_wp2_with fail
      go_ret2
      refine ⟨0, 5, rfl, hidI (Or.inl ⟨rfl, rfl, ?_, b4, H, V, Or.inl rfl, HD4.out.le (by omega)⟩)⟩
      have h1 := HF.out
      have h2 := D2.out.tr.cap
      have h3 := HPH2.out
      omega
    · have HD4 := hidI (D2.out.trans D4)
      clear D4
      have RX := hidI (in_remapTake HD4.out.i (by have h1 := HD4.out.ph; have h2 := HPH.out; omega) p' (by rw [HD4.out.tr.pages]; exact HL.out.1))
      go_wp2_with fail
      refine RX.out.mono ?_
      rintro e w5 ⟨r, rfl, P5⟩
      rcases P5.out with ⟨rfl, hf, b5, D5⟩ | ⟨rfl, b5, H5, D5⟩
      · have HD5 := hidI (HD4.out.trans D5)
        have HF := hidI hf
        clear D5 hf
        go_wp2_with fail
        go_ret2
        refine ⟨0, 5, rfl, hidI (Or.inl ⟨rfl, rfl, ?_, b5, H4, _, Or.inr rfl, HD5.out.le (by omega)⟩)⟩
        have h1 := HF.out
        have h2 := HD4.out.tr.cap
        have h3 := HD4.out.ph
        omega
      · have HD5 := hidI (HD4.out.trans D5)
        clear D5
        go_wp2_with fail
        go_ret2
        exact ⟨_, 0, rfl, hidI (Or.inr ⟨rfl, rfl, b5, H5, HD5.out.le (by omega)⟩)⟩
set_option maxHeartbeats 2000000 in
set_option maxRecDepth 100000 in
/-- Give of what is not to be given. -/
theorem sgive_arg (sp : Sp b.x.pages V) (k : Int) (hk : k < 0 ∨ (b.x.pages : Int) ≤ k ∨ (k < (ownN b.x.pages : Int)) ∨ MkB V k.toNat = false) :
    Calls Tryz.prog 63 #[.pointer (some ⟨bp, 0, none⟩), .int .i64 k] w fun e w' => e = .returned (.int .i64 2) ∧ ∃ b', Hid (Did w0 w' bp K nb m U b H V 0 b' H) := by
  have hpg := h.pg3
  have WX := swithin_in h.ab (by omega) h.tx.st
  by_cases hin : 0 ≤ k ∧ k < (b.x.pages : Int)
  · obtain ⟨q, rfl⟩ : ∃ q : Nat, k = (q : Int) := ⟨k.toNat, by omega⟩
    have TX := rd_taken h.ab h.tx.sh (by omega) (by omega) sp.hd q (by omega)
    have HH := hidI h
    cases hm : MkB V q with
    | false =>
      rw [hm] at TX
      clear h sp hk hm
      go_enter Tryz.func63, Tryz.ntmps63
      go_wp2_with (first
        | (go_at_call 154; refine WX.mono ?_; rintro e wz ⟨rfl, hz⟩; rw [hz]; clear hz)
        | (go_at_call 147; refine TX.mono ?_; rintro e w1 ⟨b1, rfl, P⟩))
      go_ret
      exact ⟨rfl, b1, hidI (P.out.did HH.out)⟩
    | true =>
      have ho : (q : Int) < (ownN b.x.pages : Int) := by
        rcases hk with h1 | h1 | h1 | h1
        · omega
        · omega
        · exact h1
        · have e : ((q : Int)).toNat = q := by omega
          rw [e, hm] at h1
          cases h1
      rw [hm] at TX
      clear h sp hk hm
      go_enter Tryz.func63, Tryz.ntmps63
      go_wp2_with (first
        | (go_at_call 154; refine WX.mono ?_; rintro e wz ⟨rfl, hz⟩; rw [hz]; clear hz)
        | (go_at_call 147; refine TX.mono ?_; rintro e w1 ⟨b1, rfl, P⟩; have HQ := ab_pages P.out.ab; rw [show b1.x.pages = b.x.pages from P.out.tr.pages] at HQ)
        | (go_at_call 24; refine HQ.mono ?_; rintro e wz ⟨rfl, hz⟩; rw [hz]; clear hz)
        | (go_at_call 158; refine (sown_any _ b.x.pages (by omega)).mono ?_; rintro e wz ⟨rfl, hz⟩; rw [hz]; clear hz))
      go_ret
      exact ⟨rfl, b1, hidI (P.out.did HH.out)⟩
  · have TX := rd_takenOut h.ab h.tx.sh (by omega) (by omega) sp.hd k (by omega)
    have HH := hidI h
    clear h sp hk
    go_enter Tryz.func63, Tryz.ntmps63
    go_wp2_with (first
      | (go_at_call 154; refine WX.mono ?_; rintro e wz ⟨rfl, hz⟩; rw [hz]; clear hz)
      | (go_at_call 147; refine TX.mono ?_; rintro e w1 ⟨b1, rfl, P⟩))
    go_ret
    exact ⟨rfl, b1, hidI (P.out.did HH.out)⟩
set_option maxHeartbeats 2000000 in
set_option maxRecDepth 100000 in
theorem sgive_in (sp : Sp b.x.pages V) (q : Nat) (hq : q < b.x.pages) (ho : ownN b.x.pages ≤ q) (hm : MkB V q = true) (hP : phN b H ≤ 380000) :
    Calls Tryz.prog 63 #[.pointer (some ⟨bp, 0, none⟩), .int .i64 (q : Int)] w fun e w' => ∃ r : Int, e = .returned (.int .i64 r) ∧ Hid ((r = 5 ∧ capN b < phN b H + 35 + 97 ∧ ∃ b', Did w0 w' bp K nb m U b H V 0 b' H) ∨ (r = 0 ∧ ∃ b' H', Did w0 w' bp K nb m U b H (bitV V q clrB) 97 b' H')) := by
  have hpg := h.pg3
  have WX := swithin_in h.ab (by omega) h.tx.st
  have TX := rd_taken h.ab h.tx.sh (by omega) (by omega) sp.hd q hq
  rw [hm] at TX
  have HH := hidI h
  have HPH := hidI hP
  have ho' : ¬ (q : Int) < (ownN b.x.pages : Int) := by omega
  clear h sp hm hP
  go_enter Tryz.func63, Tryz.ntmps63
  go_wp2_with (first
    | (go_at_call 154; refine WX.mono ?_; rintro e wz ⟨rfl, hz⟩; rw [hz]; clear hz)
    | (go_at_call 147; refine TX.mono ?_; rintro e w1 ⟨b1, rfl, P⟩; have HQ := ab_pages P.out.ab; rw [show b1.x.pages = b.x.pages from P.out.tr.pages] at HQ)
    | (go_at_call 24; refine HQ.mono ?_; rintro e wz ⟨rfl, hz⟩; rw [hz]; clear hz)
    | (go_at_call 158; refine (sown_any _ b.x.pages (by omega)).mono ?_; rintro e wz ⟨rfl, hz⟩; rw [hz]; clear hz))
  have D1 := hidI (P.out.did HH.out)
  have RX := hidI (in_remapGive D1.out.i (by have h1 := D1.out.ph; have h2 := HPH.out; omega) q (by rw [P.out.tr.pages]; exact hq))
  refine RX.out.mono ?_
  rintro e w2 ⟨r, rfl, P2⟩
  go_wp2_with fail
  go_ret
  refine ⟨r, rfl, hidI ?_⟩
  rcases P2.out with ⟨rfl, hf, b2, D2⟩ | ⟨rfl, b2, H2, D2⟩
  · refine Or.inl ⟨rfl, ?_, b2, (D1.out.trans D2).le (by omega)⟩
    have h1 := D1.out.ph
    have h2 := D1.out.tr.cap
    omega
  · exact Or.inr ⟨rfl, b2, H2, (D1.out.trans D2).le (by omega)⟩
end
end Go.Proofs.YtopaeomjndblkaaGreat

namespace Go.Proofs.YtopaeomjndblkaaGreat
open Go.RowKit Go.Maps
open Pg (SpE diffS byteAt)

/-- A book of a law, in no transaction. -/
structure Idl (w0 w : World) (bp : Nat) (K : List (Nat × Obj)) (nb : Nat) (m : Mst) (b : Bk) (V : Pages) : Prop where
  ab : Ab w0 w bp b K
  env : Env b nb m
  idle : Idle b V
/-- What a transaction's beginning or end says of the log. -/
structure Nxt (b b' : Bk) (m m' : Mst) : Prop where
  pages : b'.x.pages = b.x.pages
  s1 : m'.seq ≤ m.seq + 1
section
variable {w0 w w' : World} {bp : Nat} {K : List (Nat × Obj)} {nb : Nat} {m : Mst} {U : Pages} {b b' : Bk} {H : List Ch} {V : Pages}
theorem Idl.quiet (h : Idl w0 w bp K nb m b V) (f : Fr [] w w') : Idl w0 w' bp K nb m b V := ⟨h.ab.quiet f, h.env, h.idle⟩
theorem Idl.rd (h : Idl w0 w bp K nb m b V) (r : Rd w0 w' bp K b b') : Idl w0 w' bp K nb m b' V := ⟨r.ab, h.env.tr r.tr, r.idle h.idle⟩
theorem Idl.on {K1 : List (Nat × Obj)} (h : Idl w0 w bp K nb m b V) (k : Ab w0 w' bp b K1) : Idl w0 w' bp K1 nb m b V := ⟨k, h.env, h.idle⟩
theorem env_pages {m' : Mst} (h : Env b nb m) (h' : Env b' nb m') : b'.x.pages = b.x.pages := by
  have h1 := h.pages
  have h2 := h'.pages
  omega
theorem idl_beg (h : Idl w0 w bp K nb m b V) (hs : m.seq ≤ 1000000) :
    Calls Tryz.prog 30 #[.pointer (some ⟨bp, 0, none⟩)] w fun e w' => e = .returned (.int .i64 0) ∧ ∃ b' m', Hid (In w0 w' bp K nb m' V b' [] V ∧ Nxt b b' m m' ∧ phN b' [] = (b.x.y.E : Int) ∧ (b'.x.y.A = b.x.y.A ∨ b'.x.y.A = b.x.y.E) ∧ 204 * b'.x.y.count ≤ b'.room) := by
  refine (ab_beg h.ab h.env h.idle hs).mono ?_
  rintro e w' ⟨he, b', m', P⟩
  obtain ⟨A, B⟩ := P.out
  refine ⟨he, b', m', hidI ⟨⟨A, B.env, B.tx, rfl⟩, ⟨env_pages h.env B.env, B.s1⟩, ?_, B.A, B.room⟩⟩
  unfold phN
  rw [B.E]
  simp [keptOf]
theorem in_com (h : In w0 w bp K nb m U b H V) (hP : phN b H ≤ 380000) :
    Calls Tryz.prog 32 #[.pointer (some ⟨bp, 0, none⟩)] w fun e w' => e = .returned (.int .i64 0) ∧ ∃ b', Hid (Idl w0 w' bp K nb m b' V ∧ Nxt b b' m m ∧ b'.x.y.E = b.x.y.E + 35 ∧ b'.x.y.A = b.x.y.A) := by
  have hE := h.E
  refine (ab_com h.ab h.env h.tx (by omega)).mono ?_
  rintro e w' ⟨he, b', P⟩
  obtain ⟨A, B⟩ := P.out
  exact ⟨he, b', hidI ⟨⟨A, B.env, B.idle⟩, ⟨B.tr.pages, by omega⟩, B.E, B.tr.A⟩⟩
theorem in_abo (h : In w0 w bp K nb m U b H V) (hP : phN b H ≤ 280000) (hn : nb ≤ 400) :
    Calls Tryz.prog 33 #[.pointer (some ⟨bp, 0, none⟩)] w fun e w' => e = .returned (.int .i64 0) ∧ ∃ b', Hid (Idl w0 w' bp K nb m b' U ∧ Nxt b b' m m ∧ (b'.x.y.E : Int) = phN b H + 35 ∧ b'.x.y.A = b.x.y.A) := by
  have hE := h.E
  have hA := h.ab.bk.po.lo.hAE
  refine (ab_abo h.ab h.env h.tx (by omega) hn).mono ?_
  rintro e w' ⟨he, b', P⟩
  obtain ⟨A, B⟩ := P.out
  have hi := B.idle
  rw [h.un] at hi
  exact ⟨he, b', hidI ⟨⟨A, B.env, hi⟩, ⟨B.tr.pages, by omega⟩, B.E, B.tr.A⟩⟩
end
def Z0 : Pages := fun _ => zs 512
theorem Z0_byte (q i : Nat) : byteAt (Z0 q) i = 0 := zs_byte i
theorem Z0_len (q : Nat) : (Z0 q).length = 512 := zs_length 512
set_option maxHeartbeats 2000000 in
set_option maxRecDepth 100000 in
/-- The laws' book, formatted. -/
theorem formatted_ok (w : World) : Calls Tryz.prog 60 #[] w fun e w' => ∃ bp, e = .returned (.pointer (some ⟨bp, 0, none⟩)) ∧ Hid (∃ b m H, In w w' bp [] 72 m Z0 b H (fmtV 34 Z0) ∧ b.x.pages = 34 ∧ phN b H ≤ 671 ∧ b.x.y.A = 0 ∧ m.seq ≤ 4) := by
  obtain ⟨nb, h0, h1, h2, BX⟩ := book_ok w 48 48 (by decide) (by omega) (by omega)
  obtain rfl : nb = 72 := by omega
  clear h0 h1 h2
  go_enter Tryz.func60, Tryz.ntmps60
  go_wp2_with fail
  refine BX.mono ?_
  rintro e w1 ⟨bp, rfl, P1⟩
  obtain ⟨b, HB⟩ : ∃ b, Hid (Ab w w1 bp b [] ∧ Fresh b 72 8 3 m321) := by
    obtain ⟨b, h⟩ := P1.out
    exact ⟨b, hidI h⟩
  have BX := hidI (idl_beg (⟨HB.out.1, HB.out.2.env (by omega) (by omega), HB.out.2.idle (by omega) (by omega)⟩ : Idl w w1 bp [] 72 m321 b Z0) (by decide))
  clear P1
  go_wp2_with fail
  refine BX.out.mono ?_
  rintro e w2 ⟨rfl, b1, m1, P2⟩
  have hpg : b1.x.pages = 34 := by
    have h1 := P2.out.1.env.pages
    omega
  have hA : b1.x.y.A = 0 := by
    have h1 := HB.out.2.A
    have h2 := HB.out.2.E
    rcases P2.out.2.2.2.1 with e | e <;> omega
  have hph : phN b1 [] = 0 := by
    rw [P2.out.2.2.1, HB.out.2.E]
    rfl
  have FX := sformat_in P2.out.1 143 (by rw [hpg]; decide) (fun i _ _ => Z0_byte 0 i) (by rw [hph]; decide)
  rw [hpg, show mapsN 34 = 1 from rfl] at FX
  have FX' := hidI FX
  have HPG := hidI (And.intro hpg (And.intro hA hph))
  clear FX hpg hA hph BX
  go_wp2_with fail
  refine FX'.out.mono ?_
  rintro e w3 ⟨r, rfl, P3⟩
  rcases P3.out with ⟨rfl, hf, _⟩ | ⟨rfl, b3, H3, D3⟩
  · exfalso
    have h1 := P2.out.1.capn
    rw [HPG.out.2.2, h1, HPG.out.2.1] at hf
    omega
  · have HD := hidI D3
    clear D3
    go_wp2_with fail
    go_ret
    refine ⟨bp, rfl, hidI ⟨b3, m1, H3, HD.out.i, by rw [HD.out.tr.pages]; exact HPG.out.1, ?_, by rw [HD.out.tr.A]; exact HPG.out.2.1, ?_⟩⟩
    · have h1 := HD.out.ph
      rw [HPG.out.2.2] at h1
      omega
    · exact P2.out.2.1.s1
end Go.Proofs.YtopaeomjndblkaaGreat

namespace Go.Proofs.YtopaeomjndblkaaGreat
open Go.RowKit Go.Maps
open Pg (SpE diffS byteAt)

/-- A space: which pages are taken; the others, and all that are not its own, are noughts. -/
structure Spz (n : Nat) (V : Pages) (tk : Nat → Bool) : Prop where
  sp : Sp n V
  bits : ∀ k, k < n → MkB V k = tk k
  z : ∀ p, ownN n ≤ p → p < n → V p = zs 512
theorem fmt_spz {n : Nat} {V : Pages} (hl : ∀ t, t < mapsN n → (V (1 + t)).length = 512) (hn : 3 ≤ n) (hz : ∀ p, ownN n ≤ p → p < n → V p = zs 512) : Spz n (fmtV n V) (fun k => decide (k < ownN n)) :=
  ⟨fmtV_sp hl hn, fun _ hk => fmtV_bit hl hk, fun p h1 h2 => by rw [fmtV_else h1]; exact hz p h1 h2⟩
theorem Spz.take {n : Nat} {V : Pages} {tk : Nat → Bool} (h : Spz n V tk) {p : Nat} (hp : p < n) (ho : ownN n ≤ p) (hl : (V (1 + p / 4096)).length = 512) : Spz n (takeV V p) (fun k => tk k || decide (k = p)) :=
  ⟨h.sp.take hp ho hl, fun k hk => by rw [takeV_bit hp ho hk hl, h.bits k hk], fun q h1 h2 => by
    have := own_gt hp
    by_cases e : q = p
    · rw [e]; exact takeV_self hp ho
    · rw [takeV_own hp ho e (by omega)]; exact h.z q h1 h2⟩
theorem Spz.give {n : Nat} {V : Pages} {tk : Nat → Bool} (h : Spz n V tk) {p : Nat} (hp : p < n) (ho : ownN n ≤ p) (hl : (V (1 + p / 4096)).length = 512) : Spz n (bitV V p clrB) (fun k => tk k && decide (k ≠ p)) :=
  ⟨h.sp.give hp ho hl, fun k hk => by rw [bitV_clr hl, h.bits k hk], fun q h1 h2 => by
    have := own_gt hp
    rw [bitV_else (by omega)]; exact h.z q h1 h2⟩
theorem Spz.root {n : Nat} {V : Pages} {tk : Nat → Bool} (h : Spz n V tk) {k v : Nat} (hl : (V 0).length = 512) (hk : k < 8) (hv : v < n) (hn : n ≤ 65536) : Spz n (rootV V k v) tk :=
  ⟨h.sp.root hl hk hv hn, fun q hq => by rw [rootV_bit]; exact h.bits q hq, fun q h1 h2 => by
    rw [rootV_else (by unfold ownN at h1; omega)]; exact h.z q h1 h2⟩
theorem Spz.congr {n : Nat} {V : Pages} {tk tk' : Nat → Bool} (h : Spz n V tk) (e : ∀ k, k < n → tk' k = tk k) : Spz n V tk' := ⟨h.sp, fun k hk => by rw [h.bits k hk, e k hk], h.z⟩
theorem cost_zs {V : Pages} {p : Nat} (h : V p = zs 512) {S : List SpE} (hS : S.map (fun e => (e.off, e.off + e.n)) = diffS (V p) (zs 512)) : sumN S ≤ ((0 : Nat) : Int) := by
  have h1 := sum_within (i := 0) (j := 0) (fun k _ _ => by rw [h]) hS
  omega
theorem low_of {V : Pages} {n a : Nat} (hb : ∀ k, k < n → MkB V k = decide (k < a)) (ha : a < n) : LowF V n a :=
  ⟨ha, by rw [hb a ha, decide_eq_false (by omega)], fun q hq => by rw [hb q (by omega), decide_eq_true hq]⟩
theorem cntF_of {V : Pages} {a : Nat} : ∀ {n : Nat}, (∀ k, k < n → MkB V k = decide (k < a)) → cntF V n = n - a
  | 0, _ => by simp [cntF]
  | n + 1, h => by
    have ih := cntF_of (n := n) (a := a) fun k hk => h k (by omega)
    have e : cntF V (n + 1) = cntF V n + if MkB V n then 0 else 1 := rfl
    rw [e, ih, h n (by omega)]
    by_cases hn : n < a
    · simp [hn]; omega
    · simp [hn]; omega
section
variable {w0 w : World} {bp : Nat} {K : List (Nat × Obj)} {nb : Nat} {m : Mst} {U : Pages} {b : Bk} {H : List Ch} {V : Pages} (h : In w0 w bp K nb m U b H V)
include h
theorem stake_sure {tk : Nat → Bool} (sp : Spz b.x.pages V tk) {p : Nat} (hl : LowF V b.x.pages p) (hP : phN b H ≤ 380000) (hr : phN b H + 132 ≤ capN b) :
    Calls Tryz.prog 62 #[.pointer (some ⟨bp, 0, none⟩)] w fun e w' => e = .returned (.tuple #[.int .i64 (p : Int), .int .i64 0]) ∧ ∃ b' H', Hid (Did w0 w' bp K nb m U b H (takeV V p) 97 b' H') := by
  refine (stake_low h sp.sp hl 0 (fun S hS => cost_zs (sp.z p (sp.sp.free hl.2.1) hl.1) hS) (by omega)).mono ?_
  rintro e w' ⟨q, r, he, P⟩
  rcases P.out with ⟨_, _, hf, _⟩ | ⟨rfl, rfl, b', H', D⟩
  · omega
  · exact ⟨he, b', H', hidI (D.le (by omega))⟩
theorem sgive_sure {tk : Nat → Bool} (sp : Spz b.x.pages V tk) (q : Nat) (hq : q < b.x.pages) (ho : ownN b.x.pages ≤ q) (hm : MkB V q = true) (hP : phN b H ≤ 380000) (hr : phN b H + 132 ≤ capN b) :
    Calls Tryz.prog 63 #[.pointer (some ⟨bp, 0, none⟩), .int .i64 (q : Int)] w fun e w' => e = .returned (.int .i64 0) ∧ ∃ b' H', Hid (Did w0 w' bp K nb m U b H (bitV V q clrB) 97 b' H') := by
  refine (sgive_in h sp.sp q hq ho hm hP).mono ?_
  rintro e w' ⟨r, he, P⟩
  rcases P.out with ⟨_, hf, _⟩ | ⟨rfl, b', H', D⟩
  · omega
  · exact ⟨he, b', H', hidI D⟩
end
set_option maxHeartbeats 4000000 in
set_option maxRecDepth 100000 in
theorem sawake_ok (w : World) : Calls Tryz.prog 58 #[] w fun e w' => e = .returned (.bool true) ∧ Fr [] w w' := by
  have o34 : ownN 34 = 2 := rfl
  go_enter Tryz.func58, Tryz.ntmps58
  go_wp2_with fail
  refine (formatted_ok w).mono ?_
  rintro e w1 ⟨bp, rfl, P⟩
  obtain ⟨b, m, H, HB⟩ : ∃ b m H, Hid (In w w1 bp [] 72 m Z0 b H (fmtV 34 Z0) ∧ b.x.pages = 34 ∧ phN b H ≤ 671 ∧ b.x.y.A = 0 ∧ m.seq ≤ 4) := by
    obtain ⟨b, m, H, h⟩ := P.out
    exact ⟨b, m, H, hidI h⟩
  clear P
  have S0 := hidI (show Spz 34 (fmtV 34 Z0) (fun k => decide (k < 2)) from fmt_spz (fun t _ => Z0_len _) (by omega) (fun p _ _ => rfl))
  obtain ⟨V0, hV0⟩ : ∃ V0, fmtV 34 Z0 = V0 := ⟨_, rfl⟩
  rw [hV0] at S0 HB
  clear hV0
  have cap0 : capN b = 14280 := by
    have h1 := HB.out.1.capn
    rw [HB.out.2.2.2.1] at h1
    omega
  have CP := hidI cap0
  clear cap0
  have T1 := hidI (stake_sure HB.out.1 (p := 2) (by rw [HB.out.2.1]; exact S0.out) (by rw [HB.out.2.1]; exact low_of S0.out.bits (by omega)) (by have := HB.out.2.2.1; omega) (by have h1 := HB.out.2.2.1; have h2 := CP.out; omega))
  go_wp2_with fail
  refine T1.out.mono ?_
  rintro e w2 ⟨rfl, b1, H1, D1⟩
  clear T1
  have pg1 : b1.x.pages = 34 := by rw [D1.out.tr.pages]; exact HB.out.2.1
  have S1 := hidI ((S0.out.take (p := 2) (by omega) (by rw [o34]; omega) (HB.out.1.len (by rw [HB.out.2.1]; omega))).congr (tk' := fun k => decide (k < 3)) (fun k _ => by simp only [← Bool.decide_or]; congr 1; simp; omega))
  have ph1 : phN b1 H1 ≤ 768 := by have h1 := D1.out.ph; have h2 := HB.out.2.2.1; omega
  have cp1 : capN b1 = 14280 := by rw [D1.out.tr.cap]; exact CP.out
  have Q1 := hidI (And.intro pg1 (And.intro ph1 cp1))
  clear pg1 ph1 cp1
  have T2 := hidI (stake_sure D1.out.i (p := 3) (by rw [Q1.out.1]; exact S1.out) (by rw [Q1.out.1]; exact low_of S1.out.bits (by omega)) (by have := Q1.out.2.1; omega) (by have h1 := Q1.out.2; omega))
  go_wp2_with fail
  refine T2.out.mono ?_
  rintro e w3 ⟨rfl, b2, H2, D2⟩
  clear T2
  have pg2 : b2.x.pages = 34 := by rw [D2.out.tr.pages]; exact Q1.out.1
  have S2 := hidI ((S1.out.take (p := 3) (by omega) (by rw [o34]; omega) (D1.out.i.len (by rw [Q1.out.1]; omega))).congr (tk' := fun k => decide (k < 4)) (fun k _ => by simp only [← Bool.decide_or]; congr 1; simp; omega))
  have ph2 : phN b2 H2 ≤ 865 := by have h1 := D2.out.ph; have h2 := Q1.out.2.1; omega
  have cp2 : capN b2 = 14280 := by rw [D2.out.tr.cap]; exact Q1.out.2.2
  have Q2 := hidI (And.intro pg2 (And.intro ph2 cp2))
  clear pg2 ph2 cp2
  have T3 := hidI (sgive_sure D2.out.i (by rw [Q2.out.1]; exact S2.out) 2 (by rw [Q2.out.1]; omega) (by rw [Q2.out.1, o34]; omega) (by rw [S2.out.bits 2 (by omega)]; rfl) (by have := Q2.out.2.1; omega) (by have h1 := Q2.out.2; omega))
  go_wp2_with fail
  refine T3.out.mono ?_
  rintro e w4 ⟨rfl, b3, H3, D3⟩
  clear T3
  have pg3 : b3.x.pages = 34 := by rw [D3.out.tr.pages]; exact Q2.out.1
  have S3 := hidI (S2.out.give (p := 2) (by omega) (by rw [o34]; omega) (D2.out.i.len (by rw [Q2.out.1]; omega)))
  have ph3 : phN b3 H3 ≤ 962 := by have h1 := D3.out.ph; have h2 := Q2.out.2.1; omega
  have cp3 : capN b3 = 14280 := by rw [D3.out.tr.cap]; exact Q2.out.2.2
  have Q3 := hidI (And.intro pg3 (And.intro ph3 cp3))
  clear pg3 ph3 cp3
  have T4 := hidI (stake_sure D3.out.i (p := 2) (by rw [Q3.out.1]; exact S3.out) (by
    rw [Q3.out.1]
    refine ⟨by omega, by rw [S3.out.bits 2 (by omega)]; rfl, fun q hq => ?_⟩
    rw [S3.out.bits q (by omega), decide_eq_true (by omega), decide_eq_true (by omega)]
    rfl) (by have := Q3.out.2.1; omega) (by have h1 := Q3.out.2; omega))
  go_wp2_with fail
  refine T4.out.mono ?_
  rintro e w5 ⟨rfl, b4, H4, D4⟩
  clear T4
  have pg4 : b4.x.pages = 34 := by rw [D4.out.tr.pages]; exact Q3.out.1
  have S4 := hidI ((S3.out.take (p := 2) (by omega) (by rw [o34]; omega) (D3.out.i.len (by rw [Q3.out.1]; omega))).congr (tk' := fun k => decide (k < 4)) (fun k _ => by
    by_cases h2 : k = 2
    · subst h2; rfl
    · rw [decide_eq_true (show k ≠ 2 from h2), decide_eq_false h2, Bool.and_true, Bool.or_false]))
  have Q4 := hidI pg4
  clear pg4
  have T5 := hidI (sfree_any D4.out.i.ab D4.out.i.tx.sh (by rw [Q4.out]; omega) (by rw [Q4.out]; omega) (by rw [Q4.out]; exact S4.out.sp.hd))
  rw [Q4.out, cntF_of S4.out.bits, show ((34 - 4 : Nat) : Int) = 30 from rfl] at T5
  go_wp2_with fail
  refine T5.out.mono ?_
  rintro e w6 ⟨b5, rfl, R5⟩
  clear T5
  have I5 := hidI (D4.out.i.rd R5.out)
  have Q5 := hidI (show b5.x.pages = 34 by rw [R5.out.tr.pages]; exact Q4.out)
  have T6 := hidI (ab_pages I5.out.ab)
  rw [Q5.out] at T6
  have T7 := hidI (sgive_arg I5.out (by rw [Q5.out]; exact S4.out.sp) 0 (Or.inr (Or.inr (Or.inl (by rw [Q5.out, o34]; omega)))))
  clear CP
  go_wp2_with (first
    | (go_at_call 24; refine T6.out.mono ?_; rintro e wz ⟨rfl, hz⟩; rw [hz]; clear hz)
    | (go_at_call 63; (with_reducible show Calls Tryz.prog 63 #[_, Value.int IntKind.i64 0] _ _); refine T7.out.mono ?_; rintro e w7 ⟨rfl, b6, D6⟩; have Q6 := hidI (show b6.x.pages = 34 by rw [D6.out.tr.pages]; exact Q5.out); have T8 := hidI (sgive_arg D6.out.i (by rw [Q6.out]; exact S4.out.sp) 9 (Or.inr (Or.inr (Or.inr (by rw [show ((9 : Int)).toNat = 9 from rfl, S4.out.bits 9 (by omega)]; rfl))))))
    | (go_at_call 63; (with_reducible show Calls Tryz.prog 63 #[_, Value.int IntKind.i64 9] _ _); refine T8.out.mono ?_; rintro e w8 ⟨rfl, b7, D7⟩))
  go_ret
  exact ⟨rfl, D7.out.i.ab.fr⟩
end Go.Proofs.YtopaeomjndblkaaGreat

