/-
  Take and Give.
-/
import Derived.Test.YthajipigppndgaaGreatY35Z
import Derived.Test.YthajipigppndgaaGreatY34Z
import Derived.Deep.LoopGhost
import Derived.WalkMore
namespace Go.Proofs.YthajipigppndgaaGreat
open Go.RowKit Go.Maps
open Pg (SpE diffS byteAt)
theorem list_byte {l l2 : List UInt8} (h : l.length = l2.length) (hb : ∀ i, i < l.length → byteAt l i = byteAt l2 i) : l = l2 := by
  refine List.ext_getElem h fun i h1 h2 => ?_
  have h3 := hb i h1
  unfold byteAt at h3
  rw [List.getD_eq_getElem?_getD, List.getD_eq_getElem?_getD, List.getElem?_eq_getElem h1, List.getElem?_eq_getElem h2] at h3
  exact h3
theorem putAt_in {l : List UInt8} {a n i : Nat} (h : a + 4 ≤ l.length) (h1 : a ≤ i) (h2 : i < a + 4) : byteAt (putAt l a n) i = byteAt (be 4 n) (i - a) := by
  have hb4 := be_length 4 n
  have ht : (l.take a).length = a := by rw [List.length_take]; omega
  unfold byteAt putAt
  rw [List.getD_eq_getElem?_getD, List.getD_eq_getElem?_getD, List.getElem?_append_left (by rw [List.length_append]; omega), List.getElem?_append_right (by omega), ht]
theorem numAt_eq {l l2 : List UInt8} {a : Nat} (h : a + 4 ≤ l.length) (h2 : a + 4 ≤ l2.length) (hb : ∀ i, a ≤ i → i < a + 4 → byteAt l i = byteAt l2 i) : numAt l a = numAt l2 a := by
  unfold numAt
  congr 1
  refine list_byte (by simp; omega) fun i hi => ?_
  have hi4 : i < 4 := by simp at hi; omega
  have h3 := hb (a + i) (by omega) (by omega)
  unfold byteAt at h3 ⊢
  rw [List.getD_eq_getElem?_getD, List.getD_eq_getElem?_getD] at h3 ⊢
  rw [List.getElem?_take, if_pos hi4, List.getElem?_drop, List.getElem?_take, if_pos hi4, List.getElem?_drop]
  exact h3
theorem numAt_same {l : List UInt8} {a n : Nat} (h : a + 4 ≤ l.length) (hn : n < 4294967296) : numAt (putAt l a n) a = n := by
  have hb4 := be_length 4 n
  have ht : (l.take a).length = a := by rw [List.length_take]; omega
  unfold numAt putAt
  rw [List.append_assoc, List.drop_left' ht, List.take_left' hb4, ofBe_be]
  exact Nat.mod_eq_of_lt (by simpa using hn)
theorem numAt_else {l : List UInt8} {a a' n : Nat} (h : a + 4 ≤ l.length) (h' : a' + 4 ≤ l.length) (hne : a + 4 ≤ a' ∨ a' + 4 ≤ a) : numAt (putAt l a n) a' = numAt l a' :=
  numAt_eq (by rw [putAt_length _ _ _ h]; exact h') h' fun i h1 h2 => putAt_far h (by omega)
theorem hdK_byte {n : Nat} {l : List UInt8} : ∀ {k : Nat}, k ≤ 8 → ∀ i, i < 512 → byteAt (hdK n l k) i = if 8 ≤ i ∧ i < 8 + 4 * k then byteAt (be 4 (numAt l (8 + 4 * ((i - 8) / 4)))) ((i - 8) % 4) else byteAt (hd0 n) i
  | 0, _, i, _ => by
    rw [if_neg (by omega)]
    rfl
  | k + 1, hk, i, hi => by
    have ih := hdK_byte (n := n) (l := l) (k := k) (by omega) i hi
    have hl := hdK_length n l k (by omega)
    unfold hdK
    by_cases h : 8 + 4 * k ≤ i ∧ i < 8 + 4 * k + 4
    · rw [putAt_in (by omega) h.1 h.2, if_pos (by omega), show (i - 8) / 4 = k by omega, show (i - 8) % 4 = i - (8 + 4 * k) by omega]
    · rw [putAt_far (by omega) (by omega), ih]
      by_cases h2 : 8 ≤ i ∧ i < 8 + 4 * k
      · rw [if_pos h2, if_pos (by omega)]
      · rw [if_neg h2, if_neg (by omega)]
theorem IsHd.byte {n : Nat} {l : List UInt8} (h : IsHd n l) {i : Nat} (hi : i < 512) (ho : i < 8 ∨ 40 ≤ i) : byteAt l i = byteAt (hd0 n) i := by
  have h1 := hdK_byte (n := n) (l := l) (k := 8) (by omega) i hi
  rw [if_neg (by omega), ← h.2] at h1
  exact h1
theorem isHd_of {n : Nat} {l : List UInt8} (hl : l.length = 512) (hr : ∀ k, k < 8 → numAt l (8 + 4 * k) < n) (hb : ∀ i, i < 512 → (i < 8 ∨ 40 ≤ i) → byteAt l i = byteAt (hd0 n) i) : IsHd n l := by
  refine ⟨hr, list_byte (by rw [hl, hdK_length _ _ _ (by omega)]) fun i hi => ?_⟩
  rw [hl] at hi
  rw [hdK_byte (by omega) i hi]
  by_cases h : 8 ≤ i ∧ i < 8 + 4 * 8
  · rw [if_pos h]
    have e : be 4 (numAt l (8 + 4 * ((i - 8) / 4))) = (l.drop (8 + 4 * ((i - 8) / 4))).take 4 := by
      have h4 : ((l.drop (8 + 4 * ((i - 8) / 4))).take 4).length = 4 := by simp; omega
      have h5 := be_ofBe ((l.drop (8 + 4 * ((i - 8) / 4))).take 4)
      rw [h4] at h5
      exact h5
    rw [e]
    unfold byteAt
    rw [List.getD_eq_getElem?_getD, List.getD_eq_getElem?_getD, List.getElem?_take, if_pos (by omega), List.getElem?_drop]
    congr 2
    omega
  · rw [if_neg h]
    exact hb i hi (by omega)
theorem hd0_is {n : Nat} (hn : 0 < n) : IsHd n (hd0 n) := by
  refine isHd_of (hd0_length n) (fun k hk => ?_) (fun i _ _ => rfl)
  have hz : numAt (hd0 n) (8 + 4 * k) = numAt (zs 512) (8 + 4 * k) := numAt_eq (by rw [hd0_length]; omega) (by rw [zs_length]; omega) fun i h1 h2 => by rw [hd0_far n (by omega) (by omega), zs_byte]
  have h0 : numAt (zs 512) (8 + 4 * k) = 0 := by
    unfold numAt zs
    rw [List.drop_replicate, List.take_replicate, show min 4 (512 - (8 + 4 * k)) = 4 by omega]
    rfl
  omega
theorem IsHd.put {n : Nat} {l : List UInt8} (h : IsHd n l) (hl : l.length = 512) {k v : Nat} (hk : k < 8) (hv : v < n) (hn : n ≤ 65536) : IsHd n (putAt l (8 + 4 * k) v) := by
  refine isHd_of (by rw [putAt_length _ _ _ (by omega), hl]) (fun j hj => ?_) (fun i hi ho => ?_)
  · by_cases e : j = k
    · subst e
      rw [numAt_same (by omega) (by omega)]
      exact hv
    · rw [numAt_else (by omega) (by omega) (by omega)]
      exact h.1 j hj
  · rw [putAt_far (by omega) (by omega)]
    exact h.byte hi ho
def bitV (V : Pages) (p : Nat) (f : UInt8 → Nat → UInt8) : Pages := setPg V (1 + p / 4096) ((V (1 + p / 4096)).set (p % 4096 / 8) (f (byteAt (V (1 + p / 4096)) (p % 4096 / 8)) (p % 8)))
theorem bitV_else {V : Pages} {p q : Nat} {f : UInt8 → Nat → UInt8} (h : q ≠ 1 + p / 4096) : bitV V p f q = V q := by
  unfold bitV setPg
  rw [if_neg h]
theorem bitV_set {V : Pages} {p k : Nat} (hl : (V (1 + p / 4096)).length = 512) : MkB (bitV V p setB) k = (MkB V k || decide (k = p)) := by
  unfold MkB
  by_cases e1 : 1 + k / 4096 = 1 + p / 4096
  · have e2 : bitV V p setB (1 + k / 4096) = (V (1 + p / 4096)).set (p % 4096 / 8) (setB (byteAt (V (1 + p / 4096)) (p % 4096 / 8)) (p % 8)) := by
      rw [e1]
      unfold bitV setPg
      rw [if_pos rfl]
    rw [e2, e1]
    by_cases e3 : k % 4096 / 8 = p % 4096 / 8
    · rw [e3, byteAt_set_eq _ (by omega), setB_bit _ (by omega) (by omega)]
      congr 1
      rw [decide_eq_decide]
      omega
    · rw [byteAt_set_ne _ e3, decide_eq_false (by omega), Bool.or_false]
  · rw [bitV_else e1, decide_eq_false (by omega), Bool.or_false]
theorem bitV_clr {V : Pages} {p k : Nat} (hl : (V (1 + p / 4096)).length = 512) : MkB (bitV V p clrB) k = (MkB V k && decide (k ≠ p)) := by
  unfold MkB
  by_cases e1 : 1 + k / 4096 = 1 + p / 4096
  · have e2 : bitV V p clrB (1 + k / 4096) = (V (1 + p / 4096)).set (p % 4096 / 8) (clrB (byteAt (V (1 + p / 4096)) (p % 4096 / 8)) (p % 8)) := by
      rw [e1]
      unfold bitV setPg
      rw [if_pos rfl]
    rw [e2, e1]
    by_cases e3 : k % 4096 / 8 = p % 4096 / 8
    · rw [e3, byteAt_set_eq _ (by omega), clrB_bit _ (by omega) (by omega)]
      congr 1
      rw [decide_eq_decide]
      omega
    · rw [byteAt_set_ne _ e3, decide_eq_true (by omega), Bool.and_true]
  · rw [bitV_else e1, decide_eq_true (by omega), Bool.and_true]
theorem MkB_congr {V V' : Pages} {k : Nat} (h : V' (1 + k / 4096) = V (1 + k / 4096)) : MkB V' k = MkB V k := by
  unfold MkB
  rw [h]
def takeV (V : Pages) (p : Nat) : Pages := bitV (setPg V p (zs 512)) p setB
structure Sp (n : Nat) (V : Pages) : Prop where
  hd : IsHd n (V 0)
  own : ∀ k, k < ownN n → MkB V k = true
theorem own_gt {n k : Nat} (hk : k < n) : 1 + k / 4096 < ownN n := by unfold ownN; omega
theorem Sp.free {n : Nat} {V : Pages} (h : Sp n V) {p : Nat} (hp : MkB V p = false) : ownN n ≤ p := by
  refine Nat.not_lt.1 fun hl => ?_
  rw [h.own p hl] at hp
  cases hp
theorem takeV_own {n : Nat} {V : Pages} {p q : Nat} (_hp : p < n) (_ho : ownN n ≤ p) (hq : q ≠ p) (hq2 : q ≠ 1 + p / 4096) : takeV V p q = V q := by
  unfold takeV
  rw [bitV_else hq2]
  unfold setPg
  rw [if_neg hq]
theorem takeV_self {n : Nat} {V : Pages} {p : Nat} (hp : p < n) (ho : ownN n ≤ p) : takeV V p p = zs 512 := by
  have := own_gt hp
  unfold takeV
  rw [bitV_else (by omega)]
  unfold setPg
  rw [if_pos rfl]
theorem takeV_bit {n : Nat} {V : Pages} {p k : Nat} (hp : p < n) (ho : ownN n ≤ p) (hk : k < n) (hl : (V (1 + p / 4096)).length = 512) : MkB (takeV V p) k = (MkB V k || decide (k = p)) := by
  have h1 := own_gt hp
  have h2 := own_gt hk
  have e : ∀ q, q ≠ p → setPg V p (zs 512) q = V q := fun q hq => by unfold setPg; rw [if_neg hq]
  unfold takeV
  rw [bitV_set (by rw [e _ (by omega)]; exact hl), MkB_congr (e _ (by omega))]
theorem Sp.take {n : Nat} {V : Pages} (h : Sp n V) {p : Nat} (hp : p < n) (ho : ownN n ≤ p) (hl : (V (1 + p / 4096)).length = 512) : Sp n (takeV V p) := by
  have h1 := own_gt hp
  refine ⟨by rw [takeV_own hp ho (by omega) (by omega)]; exact h.hd, fun k hk => ?_⟩
  rw [takeV_bit hp ho (by omega) hl, h.own k hk]
  rfl
theorem Sp.give {n : Nat} {V : Pages} (h : Sp n V) {p : Nat} (_hp : p < n) (ho : ownN n ≤ p) (hl : (V (1 + p / 4096)).length = 512) : Sp n (bitV V p clrB) := by
  refine ⟨by rw [bitV_else (by omega)]; exact h.hd, fun k hk => ?_⟩
  rw [bitV_clr hl, h.own k hk, decide_eq_true (by omega)]
  rfl
def rootV (V : Pages) (k v : Nat) : Pages := setPg V 0 (putAt (V 0) (8 + 4 * k) v)
theorem rootV_else {V : Pages} {k v q : Nat} (h : q ≠ 0) : rootV V k v q = V q := by
  unfold rootV setPg
  rw [if_neg h]
theorem rootV_bit {V : Pages} {k v q : Nat} : MkB (rootV V k v) q = MkB V q := MkB_congr (rootV_else (by omega))
theorem Sp.root {n : Nat} {V : Pages} (h : Sp n V) {k v : Nat} (hl : (V 0).length = 512) (hk : k < 8) (hv : v < n) (hn : n ≤ 65536) : Sp n (rootV V k v) := by
  refine ⟨?_, fun q hq => by rw [rootV_bit]; exact h.own q hq⟩
  have e : rootV V k v 0 = putAt (V 0) (8 + 4 * k) v := by unfold rootV setPg; rw [if_pos rfl]
  rw [e]
  exact h.hd.put hl hk hv hn
theorem fmtV_bit {n : Nat} {V : Pages} (hl : ∀ t, t < mapsN n → (V (1 + t)).length = 512) {k : Nat} (hk : k < n) : MkB (fmtV n V) k = decide (k < ownN n) := by
  have e : MkB (fmtV n V) k = MkB (layV n V (mapsN n)) k := MkB_congr (by unfold fmtV setPg; rw [if_neg (by omega)])
  rw [e, layV_bit hl hk]
theorem fmtV_sp {n : Nat} {V : Pages} (hl : ∀ t, t < mapsN n → (V (1 + t)).length = 512) (hn : 3 ≤ n) : Sp n (fmtV n V) := by
  refine ⟨?_, fun k hk => ?_⟩
  · have e : fmtV n V 0 = hd0 n := by unfold fmtV setPg; rw [if_pos rfl]
    rw [e]
    exact hd0_is (by omega)
  · have h2 : k < n := by unfold ownN at hk; omega
    rw [fmtV_bit hl h2, decide_eq_true hk]
theorem fmtV_else {n : Nat} {V : Pages} {q : Nat} (hq : ownN n ≤ q) : fmtV n V q = V q := by
  have h1 : mapsN n < q := by unfold mapsN; unfold ownN at hq; omega
  unfold fmtV setPg
  rw [if_neg (by omega)]
  exact layV_else (by omega)
end Go.Proofs.YthajipigppndgaaGreat

namespace Go.Proofs.YthajipigppndgaaGreat
open Go.RowKit Go.Maps
set_option maxHeartbeats 4000000 in
set_option maxRecDepth 100000 in
theorem seachLow {w0 w : World} {bp : Nat} {b : Bk} {K : List (Nat × Obj)} (h : Ab w0 w bp b K) {V : Pages} (hv : Shows b.x V) (hp : 3 ≤ b.x.pages) (hp2 : b.x.pages ≤ 65536) (c : Nat) (s0 : Int) (hc : CelI w c s0) (hcw : w0.heap.size ≤ c) (hcK : ∀ p ∈ K, p.1 ≠ c) :
    Calls Tryz.prog 56 #[.pointer (some ⟨bp, 0, none⟩), .func (.func 226) #[] #[.pointer (some ⟨c, 0, none⟩)]] w fun e w' => e = .returned (.int .i64 0) ∧ ∃ b', Hid (Rd w0 w' bp K b b' ∧ CelI w' c (runF V nxLow false 0 b.x.pages s0)) := by
  have HQ := ab_pages h
  obtain ⟨n, HN⟩ : ∃ n, Hid (b.x.pages = n) := ⟨_, hidI rfl⟩
  obtain ⟨TOT, HT⟩ : ∃ TOT, Hid (runF V nxLow false 0 b.x.pages s0 = TOT) := ⟨_, hidI rfl⟩
  rw [HT.out]
  have HT0 : Hid (runF V nxLow false 0 n s0 = TOT) := hidI (by rw [← HN.out]; exact HT.out)
  rw [HN.out] at HQ hp hp2
  have HH := hidI h
  have HV := hidI hv
  have HC := hidI hc
  have HCW := hidI (And.intro hcw hcK)
  clear h hv hc hcw hcK
  go_enter Tryz.func56, Tryz.ntmps56
  go_wp2
  go_step3
  go_wp2_with (go_at_call 16; refine HQ.mono ?_; rintro e wz ⟨rfl, hz⟩; rw [hz]; clear hz)
  go_step3
  go_wp2
  clear HQ
  go_loopg [6] 17 (fun g0 s6 wx => ∃ (t : Nat) (s : Int) (b1 : Bk), t + g0 = 17 ∧ s6 = .int .i64 ((4096 * t : Nat) : Int) ∧ Hid (Rd w0 wx bp K b b1 ∧ CelI wx c s ∧ runF V nxLow false (4096 * t) (n - 4096 * t) s = TOT))
  case atStart => exact ⟨0, s0, b, by omega, rfl, hidI ⟨Rd.refl HH.out, HC.out, HT0.out⟩⟩
  case round =>
    obtain ⟨t, s, b1, ht, rfl, HI⟩ := hrel
    by_cases hlt : 4096 * t < n
    · have q0 : ((4096 * t : Nat) : Int) < (n : Int) := by omega
      obtain ⟨g0, rfl⟩ : ∃ g0, gk = g0 + 1 := ⟨gk - 1, by omega⟩
      have LX := splace_any wr (4096 * t) (by omega)
      have e1 : 1 + 4096 * t / 4096 = 1 + t := by omega
      have e2 : 4096 * t % 4096 / 8 = 0 := by omega
      have e3 : 2 ^ (4096 * t % 8) = 1 := by rw [show 4096 * t % 8 = 0 by omega]
      rw [e1, e2, e3] at LX
      clear e1 e2 e3
      have HPG : Hid (∀ w1, Fr [] wr w1 → Calls Tryz.prog 106 #[.pointer (some ⟨bp, 0, none⟩), .int .i64 ((1 + t : Nat) : Int)] w1 fun e w' => ∃ g b', e = .returned (.tuple #[.slice (some ⟨g, 0, none⟩) 512 512, .int .i64 0]) ∧ Hid (EF w0 w' bp K b b' c s g (V (1 + t)))) := hidI (fun w1 f1 => by
        obtain ⟨rd, cl, hr⟩ := HI.out
        have hp1 : b1.x.pages = n := by rw [rd.tr.pages]; exact HN.out
        have A1 := (rd.ab.quiet f1)
        have C1 : CelI w1 c s := cl.kept f1 (by simp)
        have A2 := A1.add C1 (A1.celOut C1)
        refine (rd_page A2 (rd.sh V HV.out) (page := 1 + t) (by omega)).mono ?_
        rintro e w' ⟨g, b', he, P⟩
        obtain ⟨r2, bl, _, _⟩ := P.out
        exact ⟨g, b', he, hidI ⟨(rd.trans r2).on (r2.ab.less (fun p hp => List.mem_cons_of_mem _ hp)), (r2.ab.kp _ List.mem_cons_self).1, bl, HCW.out.1, HCW.out.2⟩⟩)
      generalize hfv : ((4096 * t : Nat) : Int) = fv at q0 LX
      have hf0 : 0 ≤ fv := by omega
      have hf1 : fv ≤ 65536 := by omega
      go_wp2_with (first
        | (go_at_call 108; refine LX.mono ?_; rintro e w1 ⟨rfl, f1⟩)
        | (go_at_call 106; refine (HPG.out _ f1).mono ?_; rintro e w2 ⟨g, b2, rfl, HE0⟩))
      have HR0 : Hid (runF V nxLow false (4096 * t) (n - 4096 * t) s = TOT) := hidI HI.out.2.2
      clear HPG LX HI
      go_loopg [40] 512 (fun g2 s40 wy => ∃ (a : Nat) (s : Int), a + g2 = 512 ∧ s40 = .int .i64 (a : Int) ∧ Hid (EF w0 wy bp K b b2 c s g (V (1 + t)) ∧ runF V nxLow false (4096 * t + 8 * a) (n - (4096 * t + 8 * a)) s = TOT))
      case atStart => exact ⟨0, s, by omega, rfl, hidI ⟨HE0.out, HR0.out⟩⟩
      case round =>
        obtain ⟨a, s, ha, rfl, HE⟩ := hrel
        by_cases hlt2 : a < 512
        · have q1 : (a : Int) < 512 := by omega
          obtain ⟨g2, rfl⟩ : ∃ g2, gk = g2 + 1 := ⟨gk - 1, by omega⟩
          obtain ⟨x, HX⟩ : ∃ x : Nat, Hid ((byteAt (V (1 + t)) a).toNat = x) := ⟨_, hidI rfl⟩
          have hx : x < 256 := by rw [← HX.out]; exact (byteAt (V (1 + t)) a).toNat_lt
          have hl5 : (V (1 + t)).length = 512 := HH.out.len HV.out (by have := HN.out; omega)
          have c0 := HE.out.1.bl.cell a (by rw [hl5]; exact hlt2)
          rw [HX.out] at c0
          by_cases h255 : x = 255
          · have hskip := runF_skip (V := V) (nx := nxLow) (go := false) (n := n) (s := s) 8 (4096 * t + 8 * a) (fun i hi => by rw [bit_of hlt2 hi, HX.out, h255]; exact all_255 ⟨i, hi⟩)
            have HSK := hidI hskip
            have d0 : ((x : Int) == 255) = true := by rw [h255]; rfl
            have H255 := hidI h255
            clear hskip h255
            go_wp2
            go_roundg g2
            case measure => omega
            case rel => exact ⟨a + 1, s, by omega, by go_num, hidI ⟨HE.out.1, by rw [show 4096 * t + 8 * (a + 1) = 4096 * t + 8 * a + 8 by omega, ← HSK.out]; exact HE.out.2⟩⟩
          · have d0 : ((x : Int) == 255) = false := by rw [beq_eq_false_iff_ne]; omega
            clear h255
            go_wp2
            go_loopg [47] 8 (fun g3 s47 wy => ∃ (i : Nat) (s : Int), i + g3 = 8 ∧ s47 = .int .i64 (i : Int) ∧ Hid (EF w0 wy bp K b b2 c s g (V (1 + t)) ∧ runF V nxLow false (4096 * t + 8 * a + i) (n - (4096 * t + 8 * a + i)) s = TOT))
            case atStart => exact ⟨0, s, by omega, rfl, HE⟩
            case round =>
              obtain ⟨i, s, hi, rfl, HE⟩ := hrel
              clear c0
              by_cases hlt3 : i < 8
              · have q2 : (i : Int) < 8 := by omega
                obtain ⟨g3, rfl⟩ : ∃ g3, gk = g3 + 1 := ⟨gk - 1, by omega⟩
                obtain ⟨p, HPp⟩ : ∃ p : Nat, Hid (4096 * t + 8 * a + i = p) := ⟨_, hidI rfl⟩
                have hpv : fv + 8 * (a : Int) + (i : Int) = (p : Int) := by have := HPp.out; omega
                have w1' : IntKind.i64.wrap (8 * (a : Int)) = 8 * (a : Int) := wrapI _ (by omega) (by omega)
                have w2' : IntKind.i64.wrap (fv + 8 * (a : Int)) = fv + 8 * (a : Int) := wrapI _ (by omega) (by omega)
                have w3' : IntKind.i64.wrap (fv + 8 * (a : Int) + (i : Int)) = (p : Int) := by rw [wrapI _ (by omega) (by omega)]; exact hpv
                rw [HPp.out] at HE
                by_cases hpn : p < n
                · have q3 : ¬ (n : Int) ≤ (p : Int) := by omega
                  have hb1 := shr1 x i hx hlt3
                  have hmk0 : MkB V p = x.testBit i := by rw [← HPp.out, bit_of hlt2 hlt3, HX.out]
                  cases hbi : x.testBit i with
                  | true =>
                    rw [hbi] at hb1 hmk0
                    have hb2 : (bits .and .u8 ((x : Int) / 2 ^ i) 1 == 0) = false := hb1
                    have hnx := hidI (runF_set (V := V) (nx := nxLow) (go := false) (s := s) hpn hmk0)
                    clear hb1 hbi hmk0
                    go_wp2
                    go_roundg g3
                    case measure => omega
                    case rel => exact ⟨i + 1, s, by omega, by go_num, hidI ⟨HE.out.1, by rw [show 4096 * t + 8 * a + (i + 1) = p + 1 by have := HPp.out; omega, ← hnx.out]; exact HE.out.2⟩⟩
                  | false =>
                    rw [hbi] at hb1 hmk0
                    have hb2 : (bits .and .u8 ((x : Int) / 2 ^ i) 1 == 0) = true := hb1
                    have hnx := hidI (runF_end (V := V) (nx := nxLow) (s := s) hpn hmk0)
                    have RC := hidI (slow1_any wr c p s HE.out.1.cl)
                    clear hb1 hbi hmk0
                    go_wp2_with (go_at_call 226; refine RC.out.mono ?_; rintro e w9 ⟨rfl, hc9, f9⟩)
                    (try rw [Exit.noGoto_ret])
                    go_ret
                    refine ⟨rfl, b2, hidI ⟨(HE.out.1.step hc9 f9).rd, ?_⟩⟩
                    have h8 := HE.out.2
                    rw [hnx.out] at h8
                    rw [← h8]
                    exact hc9
                · have q3 : (n : Int) ≤ (p : Int) := by omega
                  have hen := hidI (runF_out (V := V) (nx := nxLow) (go := false) (s := s) (n := n) (j := p) (by omega))
                  go_wp2
                  (try rw [Exit.noGoto_ret])
                  go_ret
                  refine ⟨rfl, b2, hidI ⟨HE.out.1.rd, ?_⟩⟩
                  have h8 := HE.out.2
                  rw [hen.out] at h8
                  rw [← h8]
                  exact HE.out.1.cl
              · have q2 : ¬ (i : Int) < 8 := by omega
                have hi8 : i = 8 := by omega
                go_wp2
                go_roundg g2
                case measure => omega
                case rel => exact ⟨a + 1, s, by omega, by go_num, hidI ⟨HE.out.1, by rw [show 4096 * t + 8 * (a + 1) = 4096 * t + 8 * a + i by omega]; exact HE.out.2⟩⟩
        · have q1 : ¬ (a : Int) < 512 := by omega
          have ha5 : a = 512 := by omega
          have w4 : IntKind.i64.wrap (fv + 4096) = fv + 4096 := wrapI _ (by omega) (by omega)
          go_wp2
          go_roundg g0
          case measure => omega
          case rel => exact ⟨t + 1, s, b2, by omega, by congr 1; omega, hidI ⟨HE.out.1.rd, HE.out.1.cl, by rw [show 4096 * (t + 1) = 4096 * t + 8 * a by omega]; exact HE.out.2⟩⟩
    · have q0 : ¬ ((4096 * t : Nat) : Int) < (n : Int) := by omega
      have hen := hidI (runF_out (V := V) (nx := nxLow) (go := false) (s := s) (n := n) (j := 4096 * t) (by omega))
      go_wp2
      (try rw [Exit.noGoto_ret])
      go_ret
      refine ⟨rfl, b1, hidI ⟨HI.out.1, ?_⟩⟩
      have h8 := HI.out.2.2
      rw [hen.out] at h8
      rw [← h8]
      exact HI.out.2.1
end Go.Proofs.YthajipigppndgaaGreat

namespace Go.Proofs.YthajipigppndgaaGreat
open Go.RowKit Go.Maps
open Pg (SpE diffS byteAt)
def LowF (V : Pages) (n p : Nat) : Prop := p < n ∧ MkB V p = false ∧ ∀ q, q < p → MkB V q = true
def NoneF (V : Pages) (n : Nat) : Prop := ∀ q, q < n → MkB V q = true
theorem low_or (V : Pages) (n : Nat) : NoneF V n ∨ ∃ p, LowF V n p := by
  induction n with
  | zero => exact Or.inl fun q hq => absurd hq (by omega)
  | succ n ih =>
    rcases ih with h | ⟨p, h1, h2, h3⟩
    · by_cases e : MkB V n = true
      · exact Or.inl fun q hq => by
          by_cases e2 : q = n
          · rw [e2]; exact e
          · exact h q (by omega)
      · exact Or.inr ⟨n, by omega, by simpa using e, h⟩
    · exact Or.inr ⟨p, by omega, h2, h3⟩
theorem LowF.uniq {V : Pages} {n p q : Nat} (h : LowF V n p) (k : LowF V n q) : p = q := by
  rcases Nat.lt_trichotomy p q with e | e | e
  · have := k.2.2 p e
    rw [h.2.1] at this
    cases this
  · exact e
  · have := h.2.2 q e
    rw [k.2.1] at this
    cases this
theorem runLow_none {V : Pages} {n : Nat} {s : Int} (h : NoneF V n) : runF V nxLow false 0 n s = s := by
  have h1 := runF_skip (V := V) (nx := nxLow) (go := true) (n := n) (s := s) n 0 (fun i hi => by rw [Nat.zero_add]; exact h i hi)
  have h2 := runF_skip (V := V) (nx := nxLow) (go := false) (n := n) (s := s) n 0 (fun i hi => by rw [Nat.zero_add]; exact h i hi)
  rw [Nat.sub_zero, Nat.zero_add, runF_out (Nat.le_refl _)] at h2
  exact h2
theorem runLow_some {V : Pages} {n p : Nat} {s : Int} (h : LowF V n p) : runF V nxLow false 0 n s = (p : Int) := by
  have h2 := runF_skip (V := V) (nx := nxLow) (go := false) (n := n) (s := s) p 0 (fun i hi => by rw [Nat.zero_add]; exact h.2.2 i hi)
  rw [Nat.sub_zero, Nat.zero_add, runF_end h.1 h.2.1] at h2
  exact h2
section
variable {w0 w : World} {bp : Nat} {b : Bk} {K : List (Nat × Obj)} (h : Ab w0 w bp b K)
include h
set_option maxHeartbeats 2000000 in
set_option maxRecDepth 100000 in
theorem slowest_any {V : Pages} (hv : Shows b.x V) (hp : 3 ≤ b.x.pages) (hp2 : b.x.pages ≤ 65536) (h0 : MkB V 0 = true) :
    Calls Tryz.prog 151 #[.pointer (some ⟨bp, 0, none⟩)] w fun e w' => ∃ b', ((e = .returned (.tuple #[.int .i64 0, .int .i64 5]) ∧ NoneF V b.x.pages) ∨ ∃ p : Nat, e = .returned (.tuple #[.int .i64 (p : Int), .int .i64 0]) ∧ LowF V b.x.pages p) ∧ Hid (Rd w0 w' bp K b b') := by
  have HH := hidI h
  have HV := hidI hv
  clear h hv
  have hf0 := HH.out.fresh (Nat.le_refl _)
  have fa : Fr [] w (w.alloc (.cells #[.int .i64 0] 3)) := (Fr.refl [] w).alloc _
  have E1 := hidI (seachLow (HH.out.quiet fa) HV.out hp hp2 w.heap.size 0 (heap_alloc_new w _) hf0.1 hf0.2.2)
  clear fa hf0
  go_enter Tryz.func151, Tryz.ntmps151
  go_wp2_with fail
  refine E1.out.mono ?_
  rintro e w2 ⟨rfl, b', P⟩
  have hc := P.out.2.c0
  rcases low_or V b.x.pages with hn | ⟨p, hn⟩
  · rw [runLow_none hn] at hc
    have HN := hidI hn
    clear hn
    go_wp2_with fail
    go_ret2
    exact ⟨b', Or.inl ⟨rfl, HN.out⟩, hidI P.out.1⟩
  · rw [runLow_some hn] at hc
    have hp0 : ((p : Int) == 0) = false := by
      rw [beq_eq_false_iff_ne]
      intro e
      have h1 := hn.2.1
      have e2 : p = 0 := by omega
      rw [e2, h0] at h1
      cases h1
    have HN := hidI hn
    clear hn h0
    go_wp2_with fail
    go_ret2
    exact ⟨b', Or.inr ⟨p, rfl, HN.out⟩, hidI P.out.1⟩
end
end Go.Proofs.YthajipigppndgaaGreat

namespace Go.Proofs.YthajipigppndgaaGreat
open Go.RowKit Go.Maps
open Pg (SpE diffS byteAt)
section
variable {w0 w : World} {bp : Nat} {K : List (Nat × Obj)} {nb : Nat} {m : Mst} {U : Pages} {b : Bk} {H : List Ch} {V : Pages} (h : In w0 w bp K nb m U b H V)
include h
set_option maxHeartbeats 2000000 in
set_option maxRecDepth 100000 in
theorem stake_none (sp : Sp b.x.pages V) (hn : NoneF V b.x.pages) :
    Calls Tryz.prog 82 #[.pointer (some ⟨bp, 0, none⟩)] w fun e w' => e = .returned (.tuple #[.int .i64 0, .int .i64 5]) ∧ ∃ b', Hid (Did w0 w' bp K nb m U b H V 0 b' H) := by
  have hpg := h.pg3
  have WX := swithin_in h.ab (by omega) h.tx.st
  have HX := rd_head h.ab h.tx.sh (by omega) (by omega) sp.hd
  have HH := hidI h
  have HS := hidI sp
  have HN := hidI hn
  clear h sp hn
  go_enter Tryz.func82, Tryz.ntmps82
  go_wp2_with (first
    | (go_at_call 73; refine WX.mono ?_; rintro e wz ⟨rfl, hz⟩; rw [hz]; clear hz)
    | (go_at_call 55; refine HX.mono ?_; rintro e w1 ⟨g, b1, rfl, P⟩))
  have ep : b1.x.pages = b.x.pages := P.out.1.tr.pages
  have LX := slowest_any P.out.1.ab (P.out.1.sh V HH.out.tx.sh) (by omega) (by omega) (HS.out.own 0 (by unfold ownN; omega))
  rw [ep] at LX
  refine LX.mono ?_
  rintro e w2 ⟨b2, (⟨rfl, _⟩ | ⟨p, _, hl⟩), P2⟩
  · clear LX HX WX
    go_wp2_with fail
    go_ret2
    exact ⟨rfl, b2, hidI ((P.out.1.trans P2.out).did HH.out)⟩
  · have h1 := HN.out p hl.1
    rw [hl.2.1] at h1
    cases h1
set_option maxHeartbeats 4000000 in
set_option maxRecDepth 100000 in
theorem stake_low (sp : Sp b.x.pages V) {p : Nat} (hl : LowF V b.x.pages p) (c : Nat) (hc : ∀ S : List SpE, S.map (fun e => (e.off, e.off + e.n)) = diffS (V p) (zs 512) → sumN S ≤ (c : Int)) (hP : phN b H + c ≤ 380000) :
    Calls Tryz.prog 82 #[.pointer (some ⟨bp, 0, none⟩)] w fun e w' => ∃ q r : Int, e = .returned (.tuple #[.int .i64 q, .int .i64 r]) ∧ Hid ((r = 5 ∧ q = 0 ∧ capN b < phN b H + 35 + c + 97 ∧ ∃ b' H' V', (V' = V ∨ V' = setPg V p (zs 512)) ∧ Did w0 w' bp K nb m U b H V' c b' H') ∨ (r = 0 ∧ q = (p : Int) ∧ ∃ b' H', Did w0 w' bp K nb m U b H (takeV V p) (c + 97) b' H')) := by
  have hpg := h.pg3
  have WX := swithin_in h.ab (by omega) h.tx.st
  have HX := rd_head h.ab h.tx.sh (by omega) (by omega) sp.hd
  have HH := hidI h
  have HS := hidI sp
  have HL := hidI hl
  have HC := hidI hc
  have HPH := hidI hP
  clear h sp hl hc hP
  go_enter Tryz.func82, Tryz.ntmps82
  go_wp2_with (first
    | (go_at_call 73; refine WX.mono ?_; rintro e wz ⟨rfl, hz⟩; rw [hz]; clear hz)
    | (go_at_call 55; refine HX.mono ?_; rintro e w1 ⟨g, b1, rfl, P⟩))
  have ep : b1.x.pages = b.x.pages := P.out.1.tr.pages
  have LX := slowest_any P.out.1.ab (P.out.1.sh V HH.out.tx.sh) (by omega) (by omega) (HS.out.own 0 (by unfold ownN; omega))
  rw [ep] at LX
  clear WX HX
  refine LX.mono ?_
  rintro e w2 ⟨b2, (⟨_, hn⟩ | ⟨p', rfl, hl⟩), P2⟩
  · have h1 := hn p HL.out.1
    rw [HL.out.2.1] at h1
    cases h1
  · obtain rfl : p' = p := hl.uniq HL.out
    have D2 := hidI ((P.out.1.trans P2.out).did HH.out)
    have HPP := hidI (show b2.x.pages = b.x.pages by rw [P2.out.tr.pages]; exact ep)
    clear LX hl ep P P2
    go_wp2_with (refine wp_make55 rfl _ _ rfl rfl (by rfl) ?_; intro w3 g g0 bl f3)
    have I3 := D2.out.i.quiet f3
    have hfr := (D2.out.i.ab.fresh g0).2.1
    have hph : phN b2 H ≤ phN b H := by have := D2.out.ph; omega
    have PX := hidI (in_put (c := (c : Int)) I3 (page := p') (by rw [HPP.out]; exact HL.out.1) (zs_length 512) (Nat.le_refl _) bl.bytes hfr (by have := HPH.out; omega) HC.out)
    have HPH2 := hidI hph
    clear I3 hfr bl f3 hph
    refine PX.out.mono ?_
    rintro e w4 ⟨r, rfl, P4⟩
    rcases P4.out with ⟨rfl, hf, b4, D4⟩ | ⟨rfl, b4, H4, D4⟩
    · have HD4 := hidI (D2.out.trans D4)
      have HF := hidI hf
      clear D4 hf
      go_wp2_with fail
      go_ret2
      refine ⟨0, 5, rfl, hidI (Or.inl ⟨rfl, rfl, ?_, b4, H, V, Or.inl rfl, HD4.out.le (by omega)⟩)⟩
      have h1 := HF.out
      have h2 := D2.out.tr.cap
      have h3 := HPH2.out
      omega
    · have HD4 := hidI (D2.out.trans D4)
      clear D4
      have RX := hidI (in_remapTake HD4.out.i (by have h1 := HD4.out.ph; have h2 := HPH.out; omega) p' (by rw [HD4.out.tr.pages]; exact HL.out.1))
      go_wp2_with fail
      refine RX.out.mono ?_
      rintro e w5 ⟨r, rfl, P5⟩
      rcases P5.out with ⟨rfl, hf, b5, D5⟩ | ⟨rfl, b5, H5, D5⟩
      · have HD5 := hidI (HD4.out.trans D5)
        have HF := hidI hf
        clear D5 hf
        go_wp2_with fail
        go_ret2
        refine ⟨0, 5, rfl, hidI (Or.inl ⟨rfl, rfl, ?_, b5, H4, _, Or.inr rfl, HD5.out.le (by omega)⟩)⟩
        have h1 := HF.out
        have h2 := HD4.out.tr.cap
        have h3 := HD4.out.ph
        omega
      · have HD5 := hidI (HD4.out.trans D5)
        clear D5
        go_wp2_with fail
        go_ret2
        exact ⟨_, 0, rfl, hidI (Or.inr ⟨rfl, rfl, b5, H5, HD5.out.le (by omega)⟩)⟩
set_option maxHeartbeats 2000000 in
set_option maxRecDepth 100000 in
theorem sgive_in (sp : Sp b.x.pages V) (q : Nat) (hq : q < b.x.pages) (ho : ownN b.x.pages ≤ q) (hm : MkB V q = true) (hP : phN b H ≤ 380000) :
    Calls Tryz.prog 41 #[.pointer (some ⟨bp, 0, none⟩), .int .i64 (q : Int)] w fun e w' => ∃ r : Int, e = .returned (.int .i64 r) ∧ Hid ((r = 5 ∧ capN b < phN b H + 35 + 97 ∧ ∃ b', Did w0 w' bp K nb m U b H V 0 b' H) ∨ (r = 0 ∧ ∃ b' H', Did w0 w' bp K nb m U b H (bitV V q clrB) 97 b' H')) := by
  have hpg := h.pg3
  have WX := swithin_in h.ab (by omega) h.tx.st
  have TX := rd_taken h.ab h.tx.sh (by omega) (by omega) sp.hd q hq
  rw [hm] at TX
  have HH := hidI h
  have HPH := hidI hP
  have ho' : ¬ (q : Int) < (ownN b.x.pages : Int) := by omega
  clear h sp hm hP
  go_enter Tryz.func41, Tryz.ntmps41
  go_wp2_with (first
    | (go_at_call 73; refine WX.mono ?_; rintro e wz ⟨rfl, hz⟩; rw [hz]; clear hz)
    | (go_at_call 33; refine TX.mono ?_; rintro e w1 ⟨b1, rfl, P⟩; have HQ := ab_pages P.out.ab; rw [show b1.x.pages = b.x.pages from P.out.tr.pages] at HQ)
    | (go_at_call 16; refine HQ.mono ?_; rintro e wz ⟨rfl, hz⟩; rw [hz]; clear hz)
    | (go_at_call 93; refine (sown_any _ b.x.pages (by omega)).mono ?_; rintro e wz ⟨rfl, hz⟩; rw [hz]; clear hz))
  have D1 := hidI (P.out.did HH.out)
  have RX := hidI (in_remapGive D1.out.i (by have h1 := D1.out.ph; have h2 := HPH.out; omega) q (by rw [P.out.tr.pages]; exact hq))
  refine RX.out.mono ?_
  rintro e w2 ⟨r, rfl, P2⟩
  go_wp2_with fail
  go_ret
  refine ⟨r, rfl, hidI ?_⟩
  rcases P2.out with ⟨rfl, hf, b2, D2⟩ | ⟨rfl, b2, H2, D2⟩
  · refine Or.inl ⟨rfl, ?_, b2, (D1.out.trans D2).le (by omega)⟩
    have h1 := D1.out.ph
    have h2 := D1.out.tr.cap
    omega
  · exact Or.inr ⟨rfl, b2, H2, (D1.out.trans D2).le (by omega)⟩
end
end Go.Proofs.YthajipigppndgaaGreat

