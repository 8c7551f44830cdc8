/-
  Format of a space.
-/
import Derived.Test.YthajipigppndgaaGreatY34Z
import Derived.Deep.LoopGhost
import Derived.WalkMore
namespace Go.Proofs.YthajipigppndgaaGreat
open Go.RowKit Go.Maps
end Go.Proofs.YthajipigppndgaaGreat

namespace Go.Proofs.YthajipigppndgaaGreat
open Go.RowKit Go.Maps
open Pg (SpE diffS byteAt)
theorem clr_all : ∀ x : Fin 256, ∀ q p : Fin 8, ((x.val - (x.val &&& 2 ^ q.val)) % 256).testBit p.val = (x.val.testBit p.val && decide (p.val ≠ q.val)) := by decide +kernel
theorem set_all : ∀ x : Fin 256, ∀ q p : Fin 8, ((x.val ||| 2 ^ q.val) % 256).testBit p.val = (x.val.testBit p.val || decide (p.val = q.val)) := by decide +kernel
theorem clrB_bit (x : UInt8) {q p : Nat} (hq : q < 8) (hp : p < 8) : (clrB x q).toNat.testBit p = (x.toNat.testBit p && decide (p ≠ q)) := by
  have h := clr_all ⟨x.toNat, x.toNat_lt⟩ ⟨q, hq⟩ ⟨p, hp⟩
  simp only [clrB, UInt8.toNat_ofNat']
  exact h
theorem setB_bit (x : UInt8) {q p : Nat} (hq : q < 8) (hp : p < 8) : (setB x q).toNat.testBit p = (x.toNat.testBit p || decide (p = q)) := by
  have h := set_all ⟨x.toNat, x.toNat_lt⟩ ⟨q, hq⟩ ⟨p, hp⟩
  simp only [setB, UInt8.toNat_ofNat']
  exact h
theorem byteAt_set_eq {l : List UInt8} {q : Nat} (x : UInt8) (h : q < l.length) : byteAt (l.set q x) q = x := by
  unfold byteAt
  rw [List.getD_eq_getElem?_getD, List.getElem?_set_self h]
  rfl
def layB (own first k : Nat) (x : UInt8) : UInt8 := if first + k < own then setB (clrB x (k % 8)) (k % 8) else clrB x (k % 8)
def layK (own first : Nat) (l : List UInt8) : Nat → List UInt8
  | 0 => l
  | k + 1 => (layK own first l k).set (k / 8) (layB own first k (byteAt (layK own first l k) (k / 8)))
theorem layK_length (own first : Nat) (l : List UInt8) (k : Nat) : (layK own first l k).length = l.length := by
  induction k with
  | zero => rfl
  | succ k ih => unfold layK; rw [List.length_set, ih]
theorem layB_bit {own first k : Nat} (x : UInt8) {p : Nat} (hp : p < 8) : (layB own first k x).toNat.testBit p = if p = k % 8 then decide (first + k < own) else x.toNat.testBit p := by
  have h8 : k % 8 < 8 := by omega
  unfold layB
  by_cases h : first + k < own
  · rw [if_pos h, setB_bit _ h8 hp, clrB_bit _ h8 hp]
    by_cases e : p = k % 8 <;> simp [e, h]
  · rw [if_neg h, clrB_bit _ h8 hp]
    by_cases e : p = k % 8 <;> simp [e, h]
theorem layK_bit {own first : Nat} {l : List UInt8} (hl : l.length = 512) : ∀ {k : Nat}, k ≤ 4096 → ∀ j, j < k → (byteAt (layK own first l k) (j / 8)).toNat.testBit (j % 8) = decide (first + j < own)
  | 0, _, j, hj => absurd hj (by omega)
  | k + 1, hk, j, hj => by
    have ih := layK_bit (own := own) (first := first) hl (k := k) (by omega)
    unfold layK
    by_cases e : j / 8 = k / 8
    · rw [e, byteAt_set_eq _ (by rw [layK_length]; omega), layB_bit _ (by omega)]
      by_cases e2 : j % 8 = k % 8
      · have : j = k := by omega
        subst this
        rw [if_pos rfl]
      · rw [if_neg e2]
        have := ih j (by omega)
        rw [e] at this
        exact this
    · rw [byteAt_set_ne _ e]
      exact ih j (by omega)
theorem layK_far {own first : Nat} {l : List UInt8} : ∀ {k i : Nat}, (k + 7) / 8 ≤ i → byteAt (layK own first l k) i = byteAt l i
  | 0, _, _ => rfl
  | k + 1, i, hi => by
    unfold layK
    rw [byteAt_set_ne _ (by omega)]
    exact layK_far (by omega)
def bitsOf (n t : Nat) : Nat := min 4096 (n - 4096 * t)
def layV (n : Nat) (V : Pages) : Nat → Pages
  | 0 => V
  | t + 1 => setPg (layV n V t) (1 + t) (layK (ownN n) (4096 * t) (V (1 + t)) (bitsOf n t))
def mapsN (n : Nat) : Nat := (n + 4095) / 4096
theorem layV_else {n : Nat} {V : Pages} : ∀ {t q : Nat}, (q < 1 ∨ t < q) → layV n V t q = V q
  | 0, _, _ => rfl
  | t + 1, q, h => by
    unfold layV setPg
    rw [if_neg (by omega)]
    exact layV_else (by omega)
theorem layV_at {n : Nat} {V : Pages} : ∀ {t i : Nat}, i < t → layV n V t (1 + i) = layK (ownN n) (4096 * i) (V (1 + i)) (bitsOf n i)
  | 0, i, h => absurd h (by omega)
  | t + 1, i, h => by
    unfold layV setPg
    by_cases e : i = t
    · subst e
      rw [if_pos rfl]
    · rw [if_neg (by omega)]
      exact layV_at (by omega)
theorem layV_bit {n : Nat} {V : Pages} (hl : ∀ t, t < mapsN n → (V (1 + t)).length = 512) {k : Nat} (hk : k < n) : MkB (layV n V (mapsN n)) k = decide (k < ownN n) := by
  have h1 : k / 4096 < mapsN n := by unfold mapsN; omega
  unfold MkB
  rw [layV_at h1]
  have e8 : k % 8 = k % 4096 % 8 := by omega
  rw [e8, layK_bit (hl _ h1) (by unfold bitsOf; omega) (k % 4096) (by unfold bitsOf; omega)]
  congr 1
  rw [show 4096 * (k / 4096) + k % 4096 = k by omega]
theorem lay_cost {n t : Nat} {l : List UInt8} {S : List SpE} (hS : S.map (fun e => (e.off, e.off + e.n)) = diffS l (layK (ownN n) (4096 * t) l (bitsOf n t))) {c : Nat} (hc : 11 * ((min 4096 n + 7) / 8 + 8) ≤ c) : sumN S ≤ (c : Int) := by
  have h := sum9 (i := 0) (j := (bitsOf n t + 7) / 8) (fun k _ hk => (layK_far (by omega)).symm) hS
  have : bitsOf n t ≤ min 4096 n := by unfold bitsOf; omega
  omega
end Go.Proofs.YthajipigppndgaaGreat

namespace Go.Proofs.YthajipigppndgaaGreat
open Go.RowKit Go.Maps
open Pg (SpE diffS byteAt)
structure InB (w0 w : World) (bp : Nat) (K : List (Nat × Obj)) (nb : Nat) (m : Mst) (U : Pages) (b : Bk) (H : List Ch) (V : Pages) (g : Nat) (l : List UInt8) : Prop where
  i : In w0 w bp K nb m U b H V
  bl : Blk w g l
  out : g ∉ b.dp :: b.x.own
  hg : w0.heap.size ≤ g
  hK : ∀ p ∈ K, p.1 ≠ g
theorem InB.quiet {w0 w w' : World} {bp : Nat} {K : List (Nat × Obj)} {nb : Nat} {m : Mst} {U : Pages} {b : Bk} {H : List Ch} {V : Pages} {g : Nat} {l : List UInt8} (h : InB w0 w bp K nb m U b H V g l) (f : Fr [] w w') : InB w0 w' bp K nb m U b H V g l := ⟨h.i.quiet f, h.bl.kept f (by simp), h.out, h.hg, h.hK⟩
theorem InB.turn {w0 w w' : World} {bp : Nat} {K : List (Nat × Obj)} {nb : Nat} {m : Mst} {U : Pages} {b : Bk} {H : List Ch} {V : Pages} {g : Nat} {l l' : List UInt8} (h : InB w0 w bp K nb m U b H V g l) (f : Fr [g] w w') (hb : Blk w' g l') : InB w0 w' bp K nb m U b H V g l' := ⟨h.i.on (h.i.ab.blk h.bl f h.out h.hg h.hK), hb, h.out, h.hg, h.hK⟩
theorem InB.set {w0 w : World} {bp : Nat} {K : List (Nat × Obj)} {nb : Nat} {m : Mst} {U : Pages} {b : Bk} {H : List Ch} {V : Pages} {g : Nat} {l : List UInt8} (h : InB w0 w bp K nb m U b H V g l) (i : Nat) (x : UInt8) : InB w0 (w.setCell ⟨g, i, none⟩ (.int .u8 x.toNat)) bp K nb m U b H V g (l.set i x) := h.turn (fr_set w g i _) (h.bl.set i x)
theorem inB_page {w0 w : World} {bp : Nat} {K : List (Nat × Obj)} {nb : Nat} {m : Mst} {U : Pages} {b : Bk} {H : List Ch} {V : Pages} (h : In w0 w bp K nb m U b H V) {page : Nat} (hp : page < b.x.pages) :
    Calls Tryz.prog 106 #[.pointer (some ⟨bp, 0, none⟩), .int .i64 (page : Int)] w fun e w' => ∃ g b', e = .returned (.tuple #[.slice (some ⟨g, 0, none⟩) 512 512, .int .i64 0]) ∧ Hid (InB w0 w' bp K nb m U b' H V g (V page) ∧ Rd w0 w' bp K b b') := by
  refine (rd_page h.ab h.tx.sh hp).mono ?_
  rintro e w' ⟨g, b', he, P⟩
  obtain ⟨r, bl, out, new⟩ := P.out
  have hf := h.ab.fresh new
  exact ⟨g, b', he, hidI ⟨⟨h.rd r, bl, out, hf.1, hf.2.2⟩, r⟩⟩
theorem InB.put {w0 w : World} {bp : Nat} {K : List (Nat × Obj)} {nb : Nat} {m : Mst} {U : Pages} {b : Bk} {H : List Ch} {V : Pages} {g : Nat} {l : List UInt8} {c : Int} (h : InB w0 w bp K nb m U b H V g l) {page : Nat} (hp : page < b.x.pages) (hl : l.length = 512) (hP : phN b H ≤ 380000) (hc : ∀ S : List SpE, S.map (fun e => (e.off, e.off + e.n)) = diffS (V page) l → sumN S ≤ c) :
    Calls Tryz.prog 37 #[.pointer (some ⟨bp, 0, none⟩), .int .i64 (page : Int), .slice (some ⟨g, 0, none⟩) 512 512] w fun e w' => ∃ r : Int, e = .returned (.int .i64 r) ∧ Hid ((r = 5 ∧ capN b < phN b H + 35 + c ∧ ∃ b', Did w0 w' bp K nb m U b H V 0 b' H) ∨ (r = 0 ∧ ∃ b' H', Did w0 w' bp K nb m U b H (setPg V page l) c b' H')) :=
  in_put h.i hp hl (Nat.le_refl _) h.bl.bytes h.out hP hc
set_option maxHeartbeats 4000000 in
set_option maxRecDepth 100000 in
theorem slayMap_any {w0 w : World} {bp : Nat} {K : List (Nat × Obj)} {nb : Nat} {m : Mst} {U : Pages} {b : Bk} {H : List Ch} {V : Pages} (h : In w0 w bp K nb m U b H V) (c : Nat) (hc : 11 * ((min 4096 b.x.pages + 7) / 8 + 8) ≤ c) (hP : phN b H + (17 * c : Nat) ≤ 380000) :
    Calls Tryz.prog 75 #[.pointer (some ⟨bp, 0, none⟩)] w fun e w' => ∃ r : Int, e = .returned (.int .i64 r) ∧ Hid ((r = 5 ∧ capN b < phN b H + 35 + (mapsN b.x.pages * c : Nat) ∧ ∃ b' H' V', Did w0 w' bp K nb m U b H V' (mapsN b.x.pages * c : Nat) b' H') ∨ (r = 0 ∧ ∃ b' H', Did w0 w' bp K nb m U b H (layV b.x.pages V (mapsN b.x.pages)) (mapsN b.x.pages * c : Nat) b' H')) := by
  have HQ := ab_pages h.ab
  have hpg := h.pg3
  obtain ⟨n, HN⟩ : ∃ n, Hid (b.x.pages = n) := ⟨_, hidI rfl⟩
  rw [HN.out] at HQ hpg hc ⊢
  have HH := hidI h
  have HCC := hidI hc
  have HPH := hidI hP
  clear h hc hP
  go_enter Tryz.func75, Tryz.ntmps75
  go_wp2_with (go_at_call 16; refine HQ.mono ?_; rintro e wz ⟨rfl, hz⟩; rw [hz]; clear hz)
  clear HQ
  go_loopg [4] 17 (fun g0 s4 wx => ∃ (t : Nat) (b1 : Bk) (H1 : List Ch), t + g0 = 17 ∧ s4 = .int .i64 ((4096 * t : Nat) : Int) ∧ t ≤ mapsN n ∧ Hid (Did w0 wx bp K nb m U b H (layV n V t) (t * c : Nat) b1 H1))
  case atStart => exact ⟨0, b, H, by omega, rfl, by omega, hidI (by rw [Nat.zero_mul]; exact HH.out.did)⟩
  case round =>
    obtain ⟨t, b1, H1, ht, rfl, htm, HI⟩ := hrel
    have hmn := hidI (show mapsN n = (n + 4095) / 4096 from rfl)
    have HP1 := hidI (show b1.x.pages = n by rw [HI.out.tr.pages]; exact HN.out)
    by_cases hlt : 4096 * t < n
    · have q0 : ((4096 * t : Nat) : Int) < (n : Int) := by omega
      obtain ⟨g0, rfl⟩ : ∃ g0, gk = g0 + 1 := ⟨gk - 1, by omega⟩
      have LX := splace_any wr (4096 * t) (by omega)
      have e1 : 1 + 4096 * t / 4096 = 1 + t := by omega
      have e2 : 4096 * t % 4096 / 8 = 0 := by omega
      have e3 : 2 ^ (4096 * t % 8) = 1 := by rw [show 4096 * t % 8 = 0 by omega]
      rw [e1, e2, e3] at LX
      clear e1 e2 e3
      have HPG : Hid (∀ w1, Fr [] wr w1 → Calls Tryz.prog 106 #[.pointer (some ⟨bp, 0, none⟩), .int .i64 ((1 + t : Nat) : Int)] w1 fun e w' => ∃ g b', e = .returned (.tuple #[.slice (some ⟨g, 0, none⟩) 512 512, .int .i64 0]) ∧ Hid (InB w0 w' bp K nb m U b' H1 (layV n V t) g (V (1 + t)) ∧ Rd w0 w' bp K b1 b')) := hidI (fun w1 f1 => by
        have h1 := inB_page (HI.out.i.quiet f1) (page := 1 + t) (by rw [HP1.out]; omega)
        rw [layV_else (by omega)] at h1
        exact h1)
      have HL : Hid ((V (1 + t)).length = 512) := hidI (HH.out.len (by rw [HN.out]; omega))
      obtain ⟨fv, hfv⟩ : ∃ fv : Int, ((4096 * t : Nat) : Int) = fv := ⟨_, rfl⟩
      obtain ⟨pv, hpv⟩ : ∃ pv : Int, ((1 + t : Nat) : Int) = pv := ⟨_, rfl⟩
      rw [hfv] at q0 LX ⊢
      rw [hpv] at LX HPG
      have hf0 : 0 ≤ fv := by omega
      have hf1 : fv ≤ 65536 := by omega
      have HFV := hidI hfv
      have HPV := hidI hpv
      clear hfv hpv
      go_wp2_with (first
        | (go_at_call 108; refine LX.mono ?_; rintro e w1 ⟨rfl, f1⟩)
        | (go_at_call 106; refine (HPG.out _ f1).mono ?_; rintro e w2 ⟨g, b2, rfl, HE0⟩))
      clear HPG LX
      obtain ⟨r, HR⟩ : ∃ r : Nat, Hid (bitsOf n t = r) := ⟨_, hidI rfl⟩
      have hr0 : r ≤ 4096 := by have h1 := HR.out; unfold bitsOf at h1; omega
      have hr1 : (r : Int) = min 4096 ((n : Int) - fv) := by have h1 := HR.out; have h2 := HFV.out; unfold bitsOf at h1; omega
      have HR1 := hidI hr1
      clear hr1
      go_loopg [10] r (fun g2 s10 wy => ∃ k : Nat, k + g2 = r ∧ s10 = .int .i64 (fv + (k : Int)) ∧ Hid (InB w0 wy bp K nb m U b2 H1 (layV n V t) g (layK (ownN n) (4096 * t) (V (1 + t)) k)))
      case atStart => exact ⟨0, by omega, by simp, hidI HE0.out.1⟩
      case round =>
        obtain ⟨k, hk, rfl, HE⟩ := hrel
        by_cases hkr : k < r
        · obtain ⟨g2, rfl⟩ : ∃ g2, gk = g2 + 1 := ⟨gk - 1, by omega⟩
          have q3 : fv + (k : Int) < min (fv + 4096) (n : Int) := by have := HR1.out; omega
          have w4 : IntKind.i64.wrap (fv + 4096) = fv + 4096 := wrapI _ (by omega) (by omega)
          have LX : Hid (∀ w1, Calls Tryz.prog 108 #[.int .i64 (fv + (k : Int))] w1 fun e w' => e = .returned (.tuple #[.int .i64 pv, .int .i64 ((k / 8 : Nat) : Int), .int .u8 ((2 ^ (k % 8) : Nat) : Int)]) ∧ Fr [] w1 w') := hidI (fun w1 => by
            have h1 := splace_any w1 (4096 * t + k) (by omega)
            rw [show 1 + (4096 * t + k) / 4096 = 1 + t by omega, show (4096 * t + k) % 4096 / 8 = k / 8 by omega, show (4096 * t + k) % 8 = k % 8 by omega, HPV.out, show ((4096 * t + k : Nat) : Int) = fv + (k : Int) by have := HFV.out; omega] at h1
            exact h1)
          obtain ⟨x, HX⟩ : ∃ x, Hid (byteAt (layK (ownN n) (4096 * t) (V (1 + t)) k) (k / 8) = x) := ⟨_, hidI rfl⟩
          obtain ⟨L, HLK⟩ : ∃ L, Hid (layK (ownN n) (4096 * t) (V (1 + t)) k = L) := ⟨_, hidI rfl⟩
          have HLL : Hid (L.length = 512) := hidI (by rw [← HLK.out, layK_length]; exact HL.out)
          rw [HLK.out] at HE HX
          obtain ⟨q1, hq1⟩ : ∃ q1, k / 8 = q1 := ⟨_, rfl⟩
          obtain ⟨q2, hq2⟩ : ∃ q2, k % 8 = q2 := ⟨_, rfl⟩
          have q15 : q1 < 512 := by omega
          have q28 : q2 < 8 := by omega
          have HQ12 := hidI (And.intro hq1 hq2)
          rw [hq1, hq2] at LX
          rw [hq1] at HX
          clear hq1 hq2
          have q15' : (q1 : Int) < 512 := by omega
          have HB1 := hidI (clrB_int x q2 q28)
          have HB2 := hidI (setB_int (clrB x q2) q2 q28)
          obtain ⟨y, HY⟩ : ∃ y : Int, Hid (((2 ^ q2 : Nat) : Int) = y) := ⟨_, hidI rfl⟩
          rw [HY.out] at LX HB1 HB2
          go_wp2_with (first
            | (go_at_call 108; refine (LX.out _).mono ?_; rintro e w3 ⟨rfl, f3⟩; have E3 := hidI (HE.out.quiet f3); have c0 := E3.out.bl.cell q1 (by rw [HLL.out]; exact q15); have z0 := E3.out.bl.frozen q1; rw [HX.out] at c0)
            | (go_at_call 93; refine (sown_any _ n (by omega)).mono ?_; rintro e wz ⟨rfl, hz⟩; rw [hz]; clear hz))
          · rename_i hown
            go_roundg g2
            case measure => omega
            case rel =>
              refine ⟨k + 1, by omega, by congr 1; omega, hidI ?_⟩
              have h1 := (E3.out.set q1 (clrB x q2)).set q1 (setB (clrB x q2) q2)
              rw [← HB2.out, ← HB1.out] at h1
              have e1 : layK (ownN n) (4096 * t) (V (1 + t)) (k + 1) = (L.set q1 (clrB x q2)).set q1 (setB (clrB x q2) q2) := by
                unfold layK layB
                rw [HLK.out, HQ12.out.1, HQ12.out.2, HX.out, if_pos (by have := HFV.out; omega), List.set_set]
              rw [e1]
              exact h1
          · rename_i hown
            go_roundg g2
            case measure => omega
            case rel =>
              refine ⟨k + 1, by omega, by congr 1; omega, hidI ?_⟩
              have h1 := E3.out.set q1 (clrB x q2)
              rw [← HB1.out] at h1
              have e1 : layK (ownN n) (4096 * t) (V (1 + t)) (k + 1) = L.set q1 (clrB x q2) := by
                unfold layK layB
                rw [HLK.out, HQ12.out.1, HQ12.out.2, HX.out, if_neg (by have := HFV.out; omega)]
              rw [e1]
              exact h1
        · have hkr2 : k = r := by omega
          have q3 : ¬ fv + (k : Int) < min (fv + 4096) (n : Int) := by have := HR1.out; omega
          have w4 : IntKind.i64.wrap (fv + 4096) = fv + 4096 := wrapI _ (by omega) (by omega)
          have hp2 : b2.x.pages = n := by rw [HE0.out.2.tr.pages]; exact HP1.out
          have D2 : Did w0 w2 bp K nb m U b H (layV n V t) (t * c : Nat) b2 H1 := HI.out.rd HE0.out.2
          have htc : t * c + c ≤ 17 * c := by have := Nat.mul_le_mul_right c (show t + 1 ≤ 17 by omega); rw [Nat.succ_mul] at this; exact this
          have PX := hidI (HE.out.put (c := (c : Int)) (page := 1 + t) (by omega) (by rw [layK_length]; exact HL.out) (by have h1 := D2.ph; have h2 := HPH.out; omega) (fun S hS => by
            rw [layV_else (by omega), hkr2, ← HR.out] at hS
            exact lay_cost hS HCC.out))
          have HD2 := hidI D2
          have HTC := hidI htc
          have HP2 := hidI hp2
          have HKR := hidI hkr2
          clear D2 htc hp2 hkr2
          rw [HPV.out] at PX
          go_wp2_with fail
          refine PX.out.mono ?_
          rintro e w5 ⟨rr, rfl, P5⟩
          have htm2 : t + 1 ≤ mapsN n := by have := hmn.out; omega
          have hmc : t * c + c ≤ mapsN n * c := by have := Nat.mul_le_mul_right c htm2; rw [Nat.succ_mul] at this; exact this
          have HMC := hidI hmc
          clear hmc
          rcases P5.out with ⟨rfl, hfull, b5, D5⟩ | ⟨rfl, b5, H5, D5⟩
          · have HD5 := hidI (HD2.out.trans D5)
            have HF := hidI hfull
            clear D5 hfull
            go_wp2_with fail
            go_ret
            refine ⟨5, rfl, hidI (Or.inl ⟨rfl, ?_, b5, H1, _, HD5.out.le (by have := HMC.out; omega)⟩)⟩
            have h1 := HD2.out.ph
            have h2 := HD2.out.tr.cap
            have h3 := HF.out
            have h4 := HMC.out
            omega
          · have HD5 := hidI (HD2.out.trans D5)
            clear D5
            go_wp2_with fail
            go_roundg g0
            case measure => omega
            case rel =>
              refine ⟨t + 1, b5, H5, by omega, by have := HFV.out; congr 1; omega, by omega, hidI ?_⟩
              have h5 := HD5.out
              rw [HKR.out, ← HR.out] at h5
              exact h5.le (by rw [Nat.succ_mul]; omega)
    · have q0 : ¬ ((4096 * t : Nat) : Int) < (n : Int) := by omega
      have htn := hidI (show t = mapsN n by have := hmn.out; omega)
      go_wp2
      go_ret
      refine ⟨0, rfl, hidI (Or.inr ⟨rfl, b1, H1, ?_⟩)⟩
      rw [← htn.out]
      exact HI.out
end Go.Proofs.YthajipigppndgaaGreat

namespace Go.Proofs.YthajipigppndgaaGreat
open Go.RowKit Go.Maps
open Pg (SpE diffS byteAt)
theorem putAt_far {l : List UInt8} {a n i : Nat} (h : a + 4 ≤ l.length) (hi : i < a ∨ a + 4 ≤ i) : byteAt (putAt l a n) i = byteAt l i := by
  have hb4 := be_length 4 n
  have ht : (l.take a).length = a := by rw [List.length_take]; omega
  unfold byteAt putAt
  rw [List.getD_eq_getElem?_getD, List.getD_eq_getElem?_getD]
  rcases hi with hi | hi
  · rw [List.append_assoc, List.getElem?_append_left (by omega), List.getElem?_take, if_pos hi]
  · rw [List.getElem?_append_right (by rw [List.length_append]; omega), List.getElem?_drop, List.length_append, ht, hb4]
    congr 2
    omega
theorem hd0_far (n : Nat) {i : Nat} (hi : 8 ≤ i) (_h5 : i < 512) : byteAt (hd0 n) i = 0 := by
  unfold hd0
  rw [putAt_far (by simp [zs_length]) (Or.inr (by omega))]
  have e : ([80, 83, 48, 49] ++ zs 508)[i]? = some 0 := by
    rw [List.getElem?_append_right (by show 4 ≤ i; omega)]
    unfold zs
    rw [List.getElem?_replicate, if_pos (by show i - 4 < 508; omega)]
  unfold byteAt
  rw [List.getD_eq_getElem?_getD, e]
  rfl
theorem hdK_far (n : Nat) (l : List UInt8) {i : Nat} : ∀ {k : Nat}, k ≤ 8 → 8 + 4 * k ≤ i → i < 512 → byteAt (hdK n l k) i = 0
  | 0, _, hi, h5 => hd0_far n (by omega) h5
  | k + 1, hk, hi, h5 => by
    unfold hdK
    rw [putAt_far (by rw [hdK_length _ _ _ (by omega)]; omega) (Or.inr (by omega))]
    exact hdK_far n l (by omega) (by omega) h5
theorem IsHd.far {n : Nat} {l : List UInt8} (h : IsHd n l) {i : Nat} (hi : 40 ≤ i) (h5 : i < 512) : byteAt l i = 0 := by
  rw [h.2]
  exact hdK_far n l (by omega) (by omega) h5
theorem zs_byte (i : Nat) : byteAt (zs 512) i = 0 := by
  unfold byteAt zs
  rw [List.getD_eq_getElem?_getD, List.getElem?_replicate]
  split <;> rfl
theorem head_cost {n : Nat} {l : List UInt8} {S : List SpE} (hz : ∀ i, 40 ≤ i → i < 512 → byteAt l i = 0) (hS : S.map (fun e => (e.off, e.off + e.n)) = diffS l (hd0 n)) : sumN S ≤ 528 := by
  have h := sum9 (i := 0) (j := 40) (fun k hk hk2 => by rw [hz k (by omega) hk, hd0_far n (by omega) hk]) hS
  omega
def fmtV (n : Nat) (V : Pages) : Pages := setPg (layV n V (mapsN n)) 0 (hd0 n)
set_option maxHeartbeats 4000000 in
set_option maxRecDepth 100000 in
theorem sformat_in {w0 w : World} {bp : Nat} {K : List (Nat × Obj)} {nb : Nat} {m : Mst} {U : Pages} {b : Bk} {H : List Ch} {V : Pages} (h : In w0 w bp K nb m U b H V) (c : Nat) (hc : 11 * ((min 4096 b.x.pages + 7) / 8 + 8) ≤ c) (hz : ∀ i, 40 ≤ i → i < 512 → byteAt (V 0) i = 0) (hP : phN b H + (17 * c : Nat) ≤ 380000) :
    Calls Tryz.prog 25 #[.pointer (some ⟨bp, 0, none⟩)] w fun e w' => ∃ r : Int, e = .returned (.int .i64 r) ∧ Hid ((r = 5 ∧ capN b < phN b H + 35 + (mapsN b.x.pages * c : Nat) + 528 ∧ ∃ b' H' V', Did w0 w' bp K nb m U b H V' (mapsN b.x.pages * c : Nat) b' H') ∨ (r = 0 ∧ ∃ b' H', Did w0 w' bp K nb m U b H (fmtV b.x.pages V) ((mapsN b.x.pages * c : Nat) + 528) b' H')) := by
  have hpg := h.pg3
  have WX := swithin_in h.ab (by omega) h.tx.st
  have HQ := ab_pages h.ab
  have FX := sfits_any w b.x.pages (by omega) (by omega)
  have LX := slayMap_any h c hc hP
  have HM : Hid (mapsN b.x.pages * c ≤ 17 * c) := hidI (Nat.mul_le_mul_right c (by unfold mapsN; omega))
  have HH := hidI h
  have HPH := hidI hP
  have HZ := hidI hz
  clear h hc hP hz
  go_enter Tryz.func25, Tryz.ntmps25
  go_wp2_with (first
    | (go_at_call 73; refine WX.mono ?_; rintro e wz ⟨rfl, hz⟩; rw [hz]; clear hz)
    | (go_at_call 16; refine HQ.mono ?_; rintro e wz ⟨rfl, hz⟩; rw [hz]; clear hz)
    | (go_at_call 74; refine FX.mono ?_; rintro e wz ⟨rfl, hz⟩; rw [hz]; clear hz))
  clear WX HQ FX
  refine LX.mono ?_
  rintro e w1 ⟨r, rfl, P⟩
  rcases P.out with ⟨rfl, hf, b1, H1, V1, D1⟩ | ⟨rfl, b1, H1, D1⟩
  · have HD := hidI D1
    have HF := hidI hf
    clear D1 hf
    go_wp2_with fail
    go_ret
    exact ⟨5, rfl, hidI (Or.inl ⟨rfl, by have := HF.out; omega, b1, H1, V1, HD.out⟩)⟩
  · have HD := hidI D1
    have HQ1 := ab_pages D1.i.ab
    rw [D1.tr.pages] at HQ1
    have NX := snewHead_any w1 b.x.pages (by omega)
    clear D1 LX P
    go_wp2_with (first
      | (go_at_call 16; refine HQ1.mono ?_; rintro e wz ⟨rfl, hz⟩; rw [hz]; clear hz)
      | (go_at_call 76; refine NX.mono ?_; rintro e w2 ⟨g, rfl, bl, ng, f2⟩))
    have I2 := HD.out.i.quiet f2
    have hfr : g ∉ b1.dp :: b1.x.own := (HD.out.i.ab.fresh ng).2.1
    have PX := hidI (in_put (c := 528) I2 (page := 0) (by rw [HD.out.tr.pages]; omega) (hd0_length _) (Nat.le_refl _) bl.bytes hfr (by have h1 := HD.out.ph; have h2 := HPH.out; have h3 := HM.out; omega) (fun S hS => head_cost (fun i h1 h2 => by rw [layV_else (by omega)]; exact HZ.out i h1 h2) hS))
    clear I2 hfr bl NX HQ1
    refine PX.out.mono ?_
    rintro e w3 ⟨r, rfl, P3⟩
    go_wp2_with fail
    go_ret
    refine ⟨r, rfl, hidI ?_⟩
    rcases P3.out with ⟨rfl, hf, b3, D3⟩ | ⟨rfl, b3, H3, D3⟩
    · have D := HD.out.trans D3
      refine Or.inl ⟨rfl, ?_, b3, H1, _, D.le (by omega)⟩
      have h1 := HD.out.ph
      have h2 := HD.out.tr.cap
      omega
    · exact Or.inr ⟨rfl, b3, H3, HD.out.trans D3⟩
end Go.Proofs.YthajipigppndgaaGreat

