/-
  layMap.
-/
import Derived.Test.YtopaeomjndblkaaGreatY46Z
import Derived.Deep.LoopGhost
import Derived.WalkMore
namespace Go.Proofs.YtopaeomjndblkaaGreat
open Go.RowKit Go.Maps

set_option maxHeartbeats 4000000 in
set_option maxRecDepth 100000 in
theorem seachCnt {w0 w : World} {bp : Nat} {b : Bk} {K : List (Nat × Obj)} (h : Ab w0 w bp b K) {V : Pages} (hv : Shows b.x V) (hp : 3 ≤ b.x.pages) (hp2 : b.x.pages ≤ 65536) (c : Nat) (s0 : Int) (hc : CelI w c s0) (hcw : w0.heap.size ≤ c) (hcK : ∀ p ∈ K, p.1 ≠ c) :
    Calls Tryz.prog 152 #[.pointer (some ⟨bp, 0, none⟩), .func (.func 153) #[] #[.pointer (some ⟨c, 0, none⟩)]] w fun e w' => e = .returned (.int .i64 0) ∧ ∃ b', Hid (Rd w0 w' bp K b b' ∧ CelI w' c (runF V nxCnt true 0 b.x.pages s0)) := by
  have HQ := ab_pages h
  obtain ⟨n, HN⟩ : ∃ n, Hid (b.x.pages = n) := ⟨_, hidI rfl⟩
  obtain ⟨TOT, HT⟩ : ∃ TOT, Hid (runF V nxCnt true 0 b.x.pages s0 = TOT) := ⟨_, hidI rfl⟩
  rw [HT.out]
  have HT0 : Hid (runF V nxCnt true 0 n s0 = TOT) := hidI (by rw [← HN.out]; exact HT.out)
  rw [HN.out] at HQ hp hp2
  have HH := hidI h
  have HV := hidI hv
  have HC := hidI hc
  have HCW := hidI (And.intro hcw hcK)
  clear h hv hc hcw hcK
  go_enter Tryz.func152, Tryz.ntmps152
  go_wp2
  go_step3
  go_wp2_with (go_at_call 24; refine HQ.mono ?_; rintro e wz ⟨rfl, hz⟩; rw [hz]; clear hz)
  go_step3
  go_wp2
  clear HQ
  go_loopg [6] 17 (fun g0 s6 wx => ∃ (t : Nat) (s : Int) (b1 : Bk), t + g0 = 17 ∧ s6 = .int .i64 ((4096 * t : Nat) : Int) ∧ Hid (Rd w0 wx bp K b b1 ∧ CelI wx c s ∧ runF V nxCnt true (4096 * t) (n - 4096 * t) s = TOT))
  case atStart => exact ⟨0, s0, b, by omega, rfl, hidI ⟨Rd.refl HH.out, HC.out, HT0.out⟩⟩
  case round =>
    obtain ⟨t, s, b1, ht, rfl, HI⟩ := hrel
    by_cases hlt : 4096 * t < n
    · have q0 : ((4096 * t : Nat) : Int) < (n : Int) := by omega
      obtain ⟨g0, rfl⟩ : ∃ g0, gk = g0 + 1 := ⟨gk - 1, by omega⟩
      have LX := splace_any wr (4096 * t) (by omega)
      have e1 : 1 + 4096 * t / 4096 = 1 + t := by omega
      have e2 : 4096 * t % 4096 / 8 = 0 := by omega
      have e3 : 2 ^ (4096 * t % 8) = 1 := by rw [show 4096 * t % 8 = 0 by omega]
      rw [e1, e2, e3] at LX
      clear e1 e2 e3
      have HPG : Hid (∀ w1, Fr [] wr w1 → Calls Tryz.prog 28 #[.pointer (some ⟨bp, 0, none⟩), .int .i64 ((1 + t : Nat) : Int)] w1 fun e w' => ∃ g b', e = .returned (.tuple #[.slice (some ⟨g, 0, none⟩) 512 512, .int .i64 0]) ∧ Hid (EF w0 w' bp K b b' c s g (V (1 + t)))) := hidI (fun w1 f1 => by
        obtain ⟨rd, cl, hr⟩ := HI.out
        have hp1 : b1.x.pages = n := by rw [rd.tr.pages]; exact HN.out
        have A1 := (rd.ab.quiet f1)
        have C1 : CelI w1 c s := cl.kept f1 (by simp)
        have A2 := A1.add C1 (A1.celOut C1)
        refine (rd_page A2 (rd.sh V HV.out) (page := 1 + t) (by omega)).mono ?_
        rintro e w' ⟨g, b', he, P⟩
        obtain ⟨r2, bl, _, _⟩ := P.out
        exact ⟨g, b', he, hidI ⟨(rd.trans r2).on (r2.ab.less (fun p hp => List.mem_cons_of_mem _ hp)), (r2.ab.kp _ List.mem_cons_self).1, bl, HCW.out.1, HCW.out.2⟩⟩)
      generalize hfv : ((4096 * t : Nat) : Int) = fv at q0 LX
      have hf0 : 0 ≤ fv := by omega
      have hf1 : fv ≤ 65536 := by omega
      go_wp2_with (first
        | (go_at_call 219; refine LX.mono ?_; rintro e w1 ⟨rfl, f1⟩)
        | (go_at_call 28; refine (HPG.out _ f1).mono ?_; rintro e w2 ⟨g, b2, rfl, HE0⟩))
      have HR0 : Hid (runF V nxCnt true (4096 * t) (n - 4096 * t) s = TOT) := hidI HI.out.2.2
      clear HPG LX HI
      go_loopg [40] 512 (fun g2 s40 wy => ∃ (a : Nat) (s : Int), a + g2 = 512 ∧ s40 = .int .i64 (a : Int) ∧ Hid (EF w0 wy bp K b b2 c s g (V (1 + t)) ∧ runF V nxCnt true (4096 * t + 8 * a) (n - (4096 * t + 8 * a)) s = TOT))
      case atStart => exact ⟨0, s, by omega, rfl, hidI ⟨HE0.out, HR0.out⟩⟩
      case round =>
        obtain ⟨a, s, ha, rfl, HE⟩ := hrel
        by_cases hlt2 : a < 512
        · have q1 : (a : Int) < 512 := by omega
          obtain ⟨g2, rfl⟩ : ∃ g2, gk = g2 + 1 := ⟨gk - 1, by omega⟩
          obtain ⟨x, HX⟩ : ∃ x : Nat, Hid ((byteAt (V (1 + t)) a).toNat = x) := ⟨_, hidI rfl⟩
          have hx : x < 256 := by rw [← HX.out]; exact (byteAt (V (1 + t)) a).toNat_lt
          have hl5 : (V (1 + t)).length = 512 := HH.out.len HV.out (by have := HN.out; omega)
          have c0 := HE.out.1.bl.cell a (by rw [hl5]; exact hlt2)
          rw [HX.out] at c0
          by_cases h255 : x = 255
          · have hskip := runF_skip (V := V) (nx := nxCnt) (go := true) (n := n) (s := s) 8 (4096 * t + 8 * a) (fun i hi => by rw [bit_of hlt2 hi, HX.out, h255]; exact all_255 ⟨i, hi⟩)
            have HSK := hidI hskip
            have d0 : ((x : Int) == 255) = true := by rw [h255]; rfl
            have H255 := hidI h255
            clear hskip h255
            go_wp2
            go_roundg g2
            case measure => omega
            case rel => exact ⟨a + 1, s, by omega, by go_num, hidI ⟨HE.out.1, by rw [show 4096 * t + 8 * (a + 1) = 4096 * t + 8 * a + 8 by omega, ← HSK.out]; exact HE.out.2⟩⟩
          · have d0 : ((x : Int) == 255) = false := by rw [beq_eq_false_iff_ne]; omega
            clear h255
            go_wp2
            go_loopg [47] 8 (fun g3 s47 wy => ∃ (i : Nat) (s : Int), i + g3 = 8 ∧ s47 = .int .i64 (i : Int) ∧ Hid (EF w0 wy bp K b b2 c s g (V (1 + t)) ∧ runF V nxCnt true (4096 * t + 8 * a + i) (n - (4096 * t + 8 * a + i)) s = TOT))
            case atStart => exact ⟨0, s, by omega, rfl, HE⟩
            case round =>
              obtain ⟨i, s, hi, rfl, HE⟩ := hrel
              clear c0
              by_cases hlt3 : i < 8
              · have q2 : (i : Int) < 8 := by omega
                obtain ⟨g3, rfl⟩ : ∃ g3, gk = g3 + 1 := ⟨gk - 1, by omega⟩
                obtain ⟨p, HPp⟩ : ∃ p : Nat, Hid (4096 * t + 8 * a + i = p) := ⟨_, hidI rfl⟩
                have hpv : fv + 8 * (a : Int) + (i : Int) = (p : Int) := by have := HPp.out; omega
                have w1' : IntKind.i64.wrap (8 * (a : Int)) = 8 * (a : Int) := wrapI _ (by omega) (by omega)
                have w2' : IntKind.i64.wrap (fv + 8 * (a : Int)) = fv + 8 * (a : Int) := wrapI _ (by omega) (by omega)
                have w3' : IntKind.i64.wrap (fv + 8 * (a : Int) + (i : Int)) = (p : Int) := by rw [wrapI _ (by omega) (by omega)]; exact hpv
                rw [HPp.out] at HE
                by_cases hpn : p < n
                · have q3 : ¬ (n : Int) ≤ (p : Int) := by omega
                  have hb1 := shr1 x i hx hlt3
                  have hmk0 : MkB V p = x.testBit i := by rw [← HPp.out, bit_of hlt2 hlt3, HX.out]
                  cases hbi : x.testBit i with
                  | true =>
                    rw [hbi] at hb1 hmk0
                    have hb2 : (bits .and .u8 ((x : Int) / 2 ^ i) 1 == 0) = false := hb1
                    have hnx := hidI (runF_set (V := V) (nx := nxCnt) (go := true) (s := s) hpn hmk0)
                    clear hb1 hbi hmk0
                    go_wp2
                    go_roundg g3
                    case measure => omega
                    case rel => exact ⟨i + 1, s, by omega, by go_num, hidI ⟨HE.out.1, by rw [show 4096 * t + 8 * a + (i + 1) = p + 1 by have := HPp.out; omega, ← hnx.out]; exact HE.out.2⟩⟩
                  | false =>
                    rw [hbi] at hb1 hmk0
                    have hb2 : (bits .and .u8 ((x : Int) / 2 ^ i) 1 == 0) = true := hb1
                    have hnx := hidI (runF_clr (V := V) (nx := nxCnt) (s := s) hpn hmk0)
                    have RC := hidI (sfree1_any wr c p s HE.out.1.cl)
                    clear hb1 hbi hmk0
                    go_wp2_with (go_at_call 153; refine RC.out.mono ?_; rintro e w9 ⟨rfl, hc9, f9⟩)
                    go_roundg g3
                    case measure => omega
                    case rel => exact ⟨i + 1, _, by omega, by go_num, hidI ⟨HE.out.1.step hc9 f9, by rw [show 4096 * t + 8 * a + (i + 1) = p + 1 by have := HPp.out; omega, ← hnx.out]; exact HE.out.2⟩⟩
                · have q3 : (n : Int) ≤ (p : Int) := by omega
                  have hen := hidI (runF_out (V := V) (nx := nxCnt) (go := true) (s := s) (n := n) (j := p) (by omega))
                  go_wp2
                  (try rw [Exit.noGoto_ret])
                  go_ret
                  refine ⟨rfl, b2, hidI ⟨HE.out.1.rd, ?_⟩⟩
                  have h8 := HE.out.2
                  rw [hen.out] at h8
                  rw [← h8]
                  exact HE.out.1.cl
              · have q2 : ¬ (i : Int) < 8 := by omega
                have hi8 : i = 8 := by omega
                go_wp2
                go_roundg g2
                case measure => omega
                case rel => exact ⟨a + 1, s, by omega, by go_num, hidI ⟨HE.out.1, by rw [show 4096 * t + 8 * (a + 1) = 4096 * t + 8 * a + i by omega]; exact HE.out.2⟩⟩
        · have q1 : ¬ (a : Int) < 512 := by omega
          have ha5 : a = 512 := by omega
          have w4 : IntKind.i64.wrap (fv + 4096) = fv + 4096 := wrapI _ (by omega) (by omega)
          go_wp2
          go_roundg g0
          case measure => omega
          case rel => exact ⟨t + 1, s, b2, by omega, by congr 1; omega, hidI ⟨HE.out.1.rd, HE.out.1.cl, by rw [show 4096 * (t + 1) = 4096 * t + 8 * a by omega]; exact HE.out.2⟩⟩
    · have q0 : ¬ ((4096 * t : Nat) : Int) < (n : Int) := by omega
      have hen := hidI (runF_out (V := V) (nx := nxCnt) (go := true) (s := s) (n := n) (j := 4096 * t) (by omega))
      go_wp2
      (try rw [Exit.noGoto_ret])
      go_ret
      refine ⟨rfl, b1, hidI ⟨HI.out.1, ?_⟩⟩
      have h8 := HI.out.2.2
      rw [hen.out] at h8
      rw [← h8]
      exact HI.out.2.1
end Go.Proofs.YtopaeomjndblkaaGreat

namespace Go.Proofs.YtopaeomjndblkaaGreat
open Go.RowKit Go.Maps
open Pg (SpE diffS byteAt)

theorem clr_all : ∀ x : Fin 256, ∀ q p : Fin 8, ((x.val - (x.val &&& 2 ^ q.val)) % 256).testBit p.val = (x.val.testBit p.val && decide (p.val ≠ q.val)) := by decide +kernel
theorem set_all : ∀ x : Fin 256, ∀ q p : Fin 8, ((x.val ||| 2 ^ q.val) % 256).testBit p.val = (x.val.testBit p.val || decide (p.val = q.val)) := by decide +kernel
theorem clrB_bit (x : UInt8) {q p : Nat} (hq : q < 8) (hp : p < 8) : (clrB x q).toNat.testBit p = (x.toNat.testBit p && decide (p ≠ q)) := by
  have h := clr_all ⟨x.toNat, x.toNat_lt⟩ ⟨q, hq⟩ ⟨p, hp⟩
  simp only [clrB, UInt8.toNat_ofNat']
  exact h
theorem setB_bit (x : UInt8) {q p : Nat} (hq : q < 8) (hp : p < 8) : (setB x q).toNat.testBit p = (x.toNat.testBit p || decide (p = q)) := by
  have h := set_all ⟨x.toNat, x.toNat_lt⟩ ⟨q, hq⟩ ⟨p, hp⟩
  simp only [setB, UInt8.toNat_ofNat']
  exact h
theorem byteAt_set_eq {l : List UInt8} {q : Nat} (x : UInt8) (h : q < l.length) : byteAt (l.set q x) q = x := by
  unfold byteAt
  rw [List.getD_eq_getElem?_getD, List.getElem?_set_self h]
  rfl
/-- The byte of page first + k, behind it. -/
def layB (own first k : Nat) (x : UInt8) : UInt8 := if first + k < own then setB (clrB x (k % 8)) (k % 8) else clrB x (k % 8)
/-- A page of the map, of whose bits the first k are laid. -/
def layK (own first : Nat) (l : List UInt8) : Nat → List UInt8
  | 0 => l
  | k + 1 => (layK own first l k).set (k / 8) (layB own first k (byteAt (layK own first l k) (k / 8)))
theorem layK_length (own first : Nat) (l : List UInt8) (k : Nat) : (layK own first l k).length = l.length := by
  induction k with
  | zero => rfl
  | succ k ih => unfold layK; rw [List.length_set, ih]
theorem layB_bit {own first k : Nat} (x : UInt8) {p : Nat} (hp : p < 8) : (layB own first k x).toNat.testBit p = if p = k % 8 then decide (first + k < own) else x.toNat.testBit p := by
  have h8 : k % 8 < 8 := by omega
  unfold layB
  by_cases h : first + k < own
  · rw [if_pos h, setB_bit _ h8 hp, clrB_bit _ h8 hp]
    by_cases e : p = k % 8 <;> simp [e, h]
  · rw [if_neg h, clrB_bit _ h8 hp]
    by_cases e : p = k % 8 <;> simp [e, h]
theorem layK_bit {own first : Nat} {l : List UInt8} (hl : l.length = 512) : ∀ {k : Nat}, k ≤ 4096 → ∀ j, j < k → (byteAt (layK own first l k) (j / 8)).toNat.testBit (j % 8) = decide (first + j < own)
  | 0, _, j, hj => absurd hj (by omega)
  | k + 1, hk, j, hj => by
    have ih := layK_bit (own := own) (first := first) hl (k := k) (by omega)
    unfold layK
    by_cases e : j / 8 = k / 8
    · rw [e, byteAt_set_eq _ (by rw [layK_length]; omega), layB_bit _ (by omega)]
      by_cases e2 : j % 8 = k % 8
      · have : j = k := by omega
        subst this
        rw [if_pos rfl]
      · rw [if_neg e2]
        have := ih j (by omega)
        rw [e] at this
        exact this
    · rw [byteAt_set_ne _ e]
      exact ih j (by omega)
theorem layK_far {own first : Nat} {l : List UInt8} : ∀ {k i : Nat}, (k + 7) / 8 ≤ i → byteAt (layK own first l k) i = byteAt l i
  | 0, _, _ => rfl
  | k + 1, i, hi => by
    unfold layK
    rw [byteAt_set_ne _ (by omega)]
    exact layK_far (by omega)
/-- How many of a map's pages' bits are pages. -/
def bitsOf (n t : Nat) : Nat := min 4096 (n - 4096 * t)
/-- The pages, of whose map t pages are laid. -/
def layV (n : Nat) (V : Pages) : Nat → Pages
  | 0 => V
  | t + 1 => setPg (layV n V t) (1 + t) (layK (ownN n) (4096 * t) (V (1 + t)) (bitsOf n t))
def mapsN (n : Nat) : Nat := (n + 4095) / 4096
theorem layV_else {n : Nat} {V : Pages} : ∀ {t q : Nat}, (q < 1 ∨ t < q) → layV n V t q = V q
  | 0, _, _ => rfl
  | t + 1, q, h => by
    unfold layV setPg
    rw [if_neg (by omega)]
    exact layV_else (by omega)
theorem layV_at {n : Nat} {V : Pages} : ∀ {t i : Nat}, i < t → layV n V t (1 + i) = layK (ownN n) (4096 * i) (V (1 + i)) (bitsOf n i)
  | 0, i, h => absurd h (by omega)
  | t + 1, i, h => by
    unfold layV setPg
    by_cases e : i = t
    · subst e
      rw [if_pos rfl]
    · rw [if_neg (by omega)]
      exact layV_at (by omega)
theorem layV_bit {n : Nat} {V : Pages} (hl : ∀ t, t < mapsN n → (V (1 + t)).length = 512) {k : Nat} (hk : k < n) : MkB (layV n V (mapsN n)) k = decide (k < ownN n) := by
  have h1 : k / 4096 < mapsN n := by unfold mapsN; omega
  unfold MkB
  rw [layV_at h1]
  have e8 : k % 8 = k % 4096 % 8 := by omega
  rw [e8, layK_bit (hl _ h1) (by unfold bitsOf; omega) (k % 4096) (by unfold bitsOf; omega)]
  congr 1
  rw [show 4096 * (k / 4096) + k % 4096 = k by omega]
theorem lay_cost {n t : Nat} {l : List UInt8} {S : List SpE} (hS : S.map (fun e => (e.off, e.off + e.n)) = diffS l (layK (ownN n) (4096 * t) l (bitsOf n t))) {c : Nat} (hc : 11 * ((min 4096 n + 7) / 8 + 8) ≤ c) : sumN S ≤ (c : Int) := by
  have h := sum9 (i := 0) (j := (bitsOf n t + 7) / 8) (fun k _ hk => (layK_far (by omega)).symm) hS
  have : bitsOf n t ≤ min 4096 n := by unfold bitsOf; omega
  omega
end Go.Proofs.YtopaeomjndblkaaGreat

namespace Go.Proofs.YtopaeomjndblkaaGreat
open Go.RowKit Go.Maps
open Pg (SpE diffS byteAt)

/-- A book in a transaction, and a block of bytes that is none of its own. -/
structure InB (w0 w : World) (bp : Nat) (K : List (Nat × Obj)) (nb : Nat) (m : Mst) (U : Pages) (b : Bk) (H : List Ch) (V : Pages) (g : Nat) (l : List UInt8) : Prop where
  i : In w0 w bp K nb m U b H V
  bl : Blk w g l
  out : g ∉ b.dp :: b.x.own
  hg : w0.heap.size ≤ g
  hK : ∀ p ∈ K, p.1 ≠ g
theorem InB.quiet {w0 w w' : World} {bp : Nat} {K : List (Nat × Obj)} {nb : Nat} {m : Mst} {U : Pages} {b : Bk} {H : List Ch} {V : Pages} {g : Nat} {l : List UInt8} (h : InB w0 w bp K nb m U b H V g l) (f : Fr [] w w') : InB w0 w' bp K nb m U b H V g l := ⟨h.i.quiet f, h.bl.kept f (by simp), h.out, h.hg, h.hK⟩
theorem InB.turn {w0 w w' : World} {bp : Nat} {K : List (Nat × Obj)} {nb : Nat} {m : Mst} {U : Pages} {b : Bk} {H : List Ch} {V : Pages} {g : Nat} {l l' : List UInt8} (h : InB w0 w bp K nb m U b H V g l) (f : Fr [g] w w') (hb : Blk w' g l') : InB w0 w' bp K nb m U b H V g l' := ⟨h.i.on (h.i.ab.blk h.bl f h.out h.hg h.hK), hb, h.out, h.hg, h.hK⟩
theorem InB.set {w0 w : World} {bp : Nat} {K : List (Nat × Obj)} {nb : Nat} {m : Mst} {U : Pages} {b : Bk} {H : List Ch} {V : Pages} {g : Nat} {l : List UInt8} (h : InB w0 w bp K nb m U b H V g l) (i : Nat) (x : UInt8) : InB w0 (w.setCell ⟨g, i, none⟩ (.int .u8 x.toNat)) bp K nb m U b H V g (l.set i x) := h.turn (fr_set w g i _) (h.bl.set i x)
theorem inB_page {w0 w : World} {bp : Nat} {K : List (Nat × Obj)} {nb : Nat} {m : Mst} {U : Pages} {b : Bk} {H : List Ch} {V : Pages} (h : In w0 w bp K nb m U b H V) {page : Nat} (hp : page < b.x.pages) :
    Calls Tryz.prog 28 #[.pointer (some ⟨bp, 0, none⟩), .int .i64 (page : Int)] w fun e w' => ∃ g b', e = .returned (.tuple #[.slice (some ⟨g, 0, none⟩) 512 512, .int .i64 0]) ∧ Hid (InB w0 w' bp K nb m U b' H V g (V page) ∧ Rd w0 w' bp K b b') := by
  refine (rd_page h.ab h.tx.sh hp).mono ?_
  rintro e w' ⟨g, b', he, P⟩
  obtain ⟨r, bl, out, new⟩ := P.out
  have hf := h.ab.fresh new
  exact ⟨g, b', he, hidI ⟨⟨h.rd r, bl, out, hf.1, hf.2.2⟩, r⟩⟩
theorem InB.put {w0 w : World} {bp : Nat} {K : List (Nat × Obj)} {nb : Nat} {m : Mst} {U : Pages} {b : Bk} {H : List Ch} {V : Pages} {g : Nat} {l : List UInt8} {c : Int} (h : InB w0 w bp K nb m U b H V g l) {page : Nat} (hp : page < b.x.pages) (hl : l.length = 512) (hP : phN b H ≤ 380000) (hc : ∀ S : List SpE, S.map (fun e => (e.off, e.off + e.n)) = diffS (V page) l → sumN S ≤ c) :
    Calls Tryz.prog 31 #[.pointer (some ⟨bp, 0, none⟩), .int .i64 (page : Int), .slice (some ⟨g, 0, none⟩) 512 512] w fun e w' => ∃ r : Int, e = .returned (.int .i64 r) ∧ Hid ((r = 5 ∧ capN b < phN b H + 35 + c ∧ ∃ b', Did w0 w' bp K nb m U b H V 0 b' H) ∨ (r = 0 ∧ ∃ b' H', Did w0 w' bp K nb m U b H (setPg V page l) c b' H')) :=
  in_put h.i hp hl (Nat.le_refl _) h.bl.bytes h.out hP hc
set_option maxHeartbeats 4000000 in
set_option maxRecDepth 100000 in
theorem slayMap_any {w0 w : World} {bp : Nat} {K : List (Nat × Obj)} {nb : Nat} {m : Mst} {U : Pages} {b : Bk} {H : List Ch} {V : Pages} (h : In w0 w bp K nb m U b H V) (c : Nat) (hc : 11 * ((min 4096 b.x.pages + 7) / 8 + 8) ≤ c) (hP : phN b H + (17 * c : Nat) ≤ 380000) :
    Calls Tryz.prog 165 #[.pointer (some ⟨bp, 0, none⟩)] w fun e w' => ∃ r : Int, e = .returned (.int .i64 r) ∧ Hid ((r = 5 ∧ capN b < phN b H + 35 + (mapsN b.x.pages * c : Nat) ∧ ∃ b' H' V', Did w0 w' bp K nb m U b H V' (mapsN b.x.pages * c : Nat) b' H') ∨ (r = 0 ∧ ∃ b' H', Did w0 w' bp K nb m U b H (layV b.x.pages V (mapsN b.x.pages)) (mapsN b.x.pages * c : Nat) b' H')) := by
  have HQ := ab_pages h.ab
  have hpg := h.pg3
  obtain ⟨n, HN⟩ : ∃ n, Hid (b.x.pages = n) := ⟨_, hidI rfl⟩
  rw [HN.out] at HQ hpg hc ⊢
  have HH := hidI h
  have HCC := hidI hc
  have HPH := hidI hP
  clear h hc hP
  go_enter Tryz.func165, Tryz.ntmps165
  go_wp2_with (go_at_call 24; refine HQ.mono ?_; rintro e wz ⟨rfl, hz⟩; rw [hz]; clear hz)
  clear HQ
  go_loopg [4] 17 (fun g0 s4 wx => ∃ (t : Nat) (b1 : Bk) (H1 : List Ch), t + g0 = 17 ∧ s4 = .int .i64 ((4096 * t : Nat) : Int) ∧ t ≤ mapsN n ∧ Hid (Did w0 wx bp K nb m U b H (layV n V t) (t * c : Nat) b1 H1))
  case atStart => exact ⟨0, b, H, by omega, rfl, by omega, hidI (by rw [Nat.zero_mul]; exact HH.out.did)⟩
  case round =>
    obtain ⟨t, b1, H1, ht, rfl, htm, HI⟩ := hrel
    have hmn := hidI (show mapsN n = (n + 4095) / 4096 from rfl)
    have HP1 := hidI (show b1.x.pages = n by rw [HI.out.tr.pages]; exact HN.out)
    by_cases hlt : 4096 * t < n
    · have q0 : ((4096 * t : Nat) : Int) < (n : Int) := by omega
      obtain ⟨g0, rfl⟩ : ∃ g0, gk = g0 + 1 := ⟨gk - 1, by omega⟩
      have LX := splace_any wr (4096 * t) (by omega)
      have e1 : 1 + 4096 * t / 4096 = 1 + t := by omega
      have e2 : 4096 * t % 4096 / 8 = 0 := by omega
      have e3 : 2 ^ (4096 * t % 8) = 1 := by rw [show 4096 * t % 8 = 0 by omega]
      rw [e1, e2, e3] at LX
      clear e1 e2 e3
      have HPG : Hid (∀ w1, Fr [] wr w1 → Calls Tryz.prog 28 #[.pointer (some ⟨bp, 0, none⟩), .int .i64 ((1 + t : Nat) : Int)] w1 fun e w' => ∃ g b', e = .returned (.tuple #[.slice (some ⟨g, 0, none⟩) 512 512, .int .i64 0]) ∧ Hid (InB w0 w' bp K nb m U b' H1 (layV n V t) g (V (1 + t)) ∧ Rd w0 w' bp K b1 b')) := hidI (fun w1 f1 => by
        have h1 := inB_page (HI.out.i.quiet f1) (page := 1 + t) (by rw [HP1.out]; omega)
        rw [layV_else (by omega)] at h1
        exact h1)
      have HL : Hid ((V (1 + t)).length = 512) := hidI (HH.out.len (by rw [HN.out]; omega))
      obtain ⟨fv, hfv⟩ : ∃ fv : Int, ((4096 * t : Nat) : Int) = fv := ⟨_, rfl⟩
      obtain ⟨pv, hpv⟩ : ∃ pv : Int, ((1 + t : Nat) : Int) = pv := ⟨_, rfl⟩
      rw [hfv] at q0 LX ⊢
      rw [hpv] at LX HPG
      have hf0 : 0 ≤ fv := by omega
      have hf1 : fv ≤ 65536 := by omega
      have HFV := hidI hfv
      have HPV := hidI hpv
      clear hfv hpv
      go_wp2_with (first
        | (go_at_call 219; refine LX.mono ?_; rintro e w1 ⟨rfl, f1⟩)
        | (go_at_call 28; refine (HPG.out _ f1).mono ?_; rintro e w2 ⟨g, b2, rfl, HE0⟩))
      clear HPG LX
      obtain ⟨r, HR⟩ : ∃ r : Nat, Hid (bitsOf n t = r) := ⟨_, hidI rfl⟩
      have hr0 : r ≤ 4096 := by have h1 := HR.out; unfold bitsOf at h1; omega
      have hr1 : (r : Int) = min 4096 ((n : Int) - fv) := by have h1 := HR.out; have h2 := HFV.out; unfold bitsOf at h1; omega
      have HR1 := hidI hr1
      clear hr1
      go_loopg [10] r (fun g2 s10 wy => ∃ k : Nat, k + g2 = r ∧ s10 = .int .i64 (fv + (k : Int)) ∧ Hid (InB w0 wy bp K nb m U b2 H1 (layV n V t) g (layK (ownN n) (4096 * t) (V (1 + t)) k)))
      case atStart => exact ⟨0, by omega, by simp, hidI HE0.out.1⟩
      case round =>
        obtain ⟨k, hk, rfl, HE⟩ := hrel
        by_cases hkr : k < r
        · obtain ⟨g2, rfl⟩ : ∃ g2, gk = g2 + 1 := ⟨gk - 1, by omega⟩
          have q3 : fv + (k : Int) < min (fv + 4096) (n : Int) := by have := HR1.out; omega
          have w4 : IntKind.i64.wrap (fv + 4096) = fv + 4096 := wrapI _ (by omega) (by omega)
          have LX : Hid (∀ w1, Calls Tryz.prog 219 #[.int .i64 (fv + (k : Int))] w1 fun e w' => e = .returned (.tuple #[.int .i64 pv, .int .i64 ((k / 8 : Nat) : Int), .int .u8 ((2 ^ (k % 8) : Nat) : Int)]) ∧ Fr [] w1 w') := hidI (fun w1 => by
            have h1 := splace_any w1 (4096 * t + k) (by omega)
            rw [show 1 + (4096 * t + k) / 4096 = 1 + t by omega, show (4096 * t + k) % 4096 / 8 = k / 8 by omega, show (4096 * t + k) % 8 = k % 8 by omega, HPV.out, show ((4096 * t + k : Nat) : Int) = fv + (k : Int) by have := HFV.out; omega] at h1
            exact h1)
          obtain ⟨x, HX⟩ : ∃ x, Hid (byteAt (layK (ownN n) (4096 * t) (V (1 + t)) k) (k / 8) = x) := ⟨_, hidI rfl⟩
          obtain ⟨L, HLK⟩ : ∃ L, Hid (layK (ownN n) (4096 * t) (V (1 + t)) k = L) := ⟨_, hidI rfl⟩
          have HLL : Hid (L.length = 512) := hidI (by rw [← HLK.out, layK_length]; exact HL.out)
          rw [HLK.out] at HE HX
          obtain ⟨q1, hq1⟩ : ∃ q1, k / 8 = q1 := ⟨_, rfl⟩
          obtain ⟨q2, hq2⟩ : ∃ q2, k % 8 = q2 := ⟨_, rfl⟩
          have q15 : q1 < 512 := by omega
          have q28 : q2 < 8 := by omega
          have HQ12 := hidI (And.intro hq1 hq2)
          rw [hq1, hq2] at LX
          rw [hq1] at HX
          clear hq1 hq2
          have q15' : (q1 : Int) < 512 := by omega
          have HB1 := hidI (clrB_int x q2 q28)
          have HB2 := hidI (setB_int (clrB x q2) q2 q28)
          obtain ⟨y, HY⟩ : ∃ y : Int, Hid (((2 ^ q2 : Nat) : Int) = y) := ⟨_, hidI rfl⟩
          rw [HY.out] at LX HB1 HB2
          go_wp2_with (first
            | (go_at_call 219; refine (LX.out _).mono ?_; rintro e w3 ⟨rfl, f3⟩; have E3 := hidI (HE.out.quiet f3); have c0 := E3.out.bl.cell q1 (by rw [HLL.out]; exact q15); have z0 := E3.out.bl.frozen q1; rw [HX.out] at c0)
            | (go_at_call 158; refine (sown_any _ n (by omega)).mono ?_; rintro e wz ⟨rfl, hz⟩; rw [hz]; clear hz))
          · rename_i hown
            go_roundg g2
            case measure => omega
            case rel =>
              refine ⟨k + 1, by omega, by congr 1; omega, hidI ?_⟩
              have h1 := (E3.out.set q1 (clrB x q2)).set q1 (setB (clrB x q2) q2)
              rw [← HB2.out, ← HB1.out] at h1
              have e1 : layK (ownN n) (4096 * t) (V (1 + t)) (k + 1) = (L.set q1 (clrB x q2)).set q1 (setB (clrB x q2) q2) := by
                unfold layK layB
                rw [HLK.out, HQ12.out.1, HQ12.out.2, HX.out, if_pos (by have := HFV.out; omega), List.set_set]
              rw [e1]
              exact h1
          · rename_i hown
            go_roundg g2
            case measure => omega
            case rel =>
              refine ⟨k + 1, by omega, by congr 1; omega, hidI ?_⟩
              have h1 := E3.out.set q1 (clrB x q2)
              rw [← HB1.out] at h1
              have e1 : layK (ownN n) (4096 * t) (V (1 + t)) (k + 1) = L.set q1 (clrB x q2) := by
                unfold layK layB
                rw [HLK.out, HQ12.out.1, HQ12.out.2, HX.out, if_neg (by have := HFV.out; omega)]
              rw [e1]
              exact h1
        · have hkr2 : k = r := by omega
          have q3 : ¬ fv + (k : Int) < min (fv + 4096) (n : Int) := by have := HR1.out; omega
          have w4 : IntKind.i64.wrap (fv + 4096) = fv + 4096 := wrapI _ (by omega) (by omega)
          have hp2 : b2.x.pages = n := by rw [HE0.out.2.tr.pages]; exact HP1.out
          have D2 : Did w0 w2 bp K nb m U b H (layV n V t) (t * c : Nat) b2 H1 := HI.out.rd HE0.out.2
          have htc : t * c + c ≤ 17 * c := by have := Nat.mul_le_mul_right c (show t + 1 ≤ 17 by omega); rw [Nat.succ_mul] at this; exact this
          have PX := hidI (HE.out.put (c := (c : Int)) (page := 1 + t) (by omega) (by rw [layK_length]; exact HL.out) (by have h1 := D2.ph; have h2 := HPH.out; omega) (fun S hS => by
            rw [layV_else (by omega), hkr2, ← HR.out] at hS
            exact lay_cost hS HCC.out))
          have HD2 := hidI D2
          have HTC := hidI htc
          have HP2 := hidI hp2
          have HKR := hidI hkr2
          clear D2 htc hp2 hkr2
          rw [HPV.out] at PX
          go_wp2_with fail
          refine PX.out.mono ?_
          rintro e w5 ⟨rr, rfl, P5⟩
          have htm2 : t + 1 ≤ mapsN n := by have := hmn.out; omega
          have hmc : t * c + c ≤ mapsN n * c := by have := Nat.mul_le_mul_right c htm2; rw [Nat.succ_mul] at this; exact this
          have HMC := hidI hmc
          clear hmc
          rcases P5.out with ⟨rfl, hfull, b5, D5⟩ | ⟨rfl, b5, H5, D5⟩
          · have HD5 := hidI (HD2.out.trans D5)
            have HF := hidI hfull
            clear D5 hfull
            go_wp2_with fail
            go_ret
            refine ⟨5, rfl, hidI (Or.inl ⟨rfl, ?_, b5, H1, _, HD5.out.le (by have := HMC.out; omega)⟩)⟩
            have h1 := HD2.out.ph
            have h2 := HD2.out.tr.cap
            have h3 := HF.out
            have h4 := HMC.out
            omega
          · have HD5 := hidI (HD2.out.trans D5)
            clear D5
            go_wp2_with fail
            go_roundg g0
            case measure => omega
            case rel =>
              refine ⟨t + 1, b5, H5, by omega, by have := HFV.out; congr 1; omega, by omega, hidI ?_⟩
              have h5 := HD5.out
              rw [HKR.out, ← HR.out] at h5
              exact h5.le (by rw [Nat.succ_mul]; omega)
    · have q0 : ¬ ((4096 * t : Nat) : Int) < (n : Int) := by omega
      have htn := hidI (show t = mapsN n by have := hmn.out; omega)
      go_wp2
      go_ret
      refine ⟨0, rfl, hidI (Or.inr ⟨rfl, b1, H1, ?_⟩)⟩
      rw [← htn.out]
      exact HI.out
end Go.Proofs.YtopaeomjndblkaaGreat

