/-
  The free pages, one behind the other: the lowest one.
-/
import Derived.Test.YtopaeomjndblkaaGreatY47Z
import Derived.Test.YtopaeomjndblkaaGreatY46Z
import Derived.Deep.LoopGhost
import Derived.WalkMore
namespace Go.Proofs.YtopaeomjndblkaaGreat
open Go.RowKit Go.Maps
open Pg (SpE diffS byteAt)

theorem putAt_far {l : List UInt8} {a n i : Nat} (h : a + 4 ≤ l.length) (hi : i < a ∨ a + 4 ≤ i) : byteAt (putAt l a n) i = byteAt l i := by
  have hb4 := be_length 4 n
  have ht : (l.take a).length = a := by rw [List.length_take]; omega
  unfold byteAt putAt
  rw [List.getD_eq_getElem?_getD, List.getD_eq_getElem?_getD]
  rcases hi with hi | hi
  · rw [List.append_assoc, List.getElem?_append_left (by omega), List.getElem?_take, if_pos hi]
  · rw [List.getElem?_append_right (by rw [List.length_append]; omega), List.getElem?_drop, List.length_append, ht, hb4]
    congr 2
    omega
theorem hd0_far (n : Nat) {i : Nat} (hi : 8 ≤ i) (_h5 : i < 512) : byteAt (hd0 n) i = 0 := by
  unfold hd0
  rw [putAt_far (by simp [zs_length]) (Or.inr (by omega))]
  have e : ([80, 83, 48, 49] ++ zs 508)[i]? = some 0 := by
    rw [List.getElem?_append_right (by show 4 ≤ i; omega)]
    unfold zs
    rw [List.getElem?_replicate, if_pos (by show i - 4 < 508; omega)]
  unfold byteAt
  rw [List.getD_eq_getElem?_getD, e]
  rfl
theorem hdK_far (n : Nat) (l : List UInt8) {i : Nat} : ∀ {k : Nat}, k ≤ 8 → 8 + 4 * k ≤ i → i < 512 → byteAt (hdK n l k) i = 0
  | 0, _, hi, h5 => hd0_far n (by omega) h5
  | k + 1, hk, hi, h5 => by
    unfold hdK
    rw [putAt_far (by rw [hdK_length _ _ _ (by omega)]; omega) (Or.inr (by omega))]
    exact hdK_far n l (by omega) (by omega) h5
theorem IsHd.far {n : Nat} {l : List UInt8} (h : IsHd n l) {i : Nat} (hi : 40 ≤ i) (h5 : i < 512) : byteAt l i = 0 := by
  rw [h.2]
  exact hdK_far n l (by omega) (by omega) h5
theorem zs_byte (i : Nat) : byteAt (zs 512) i = 0 := by
  unfold byteAt zs
  rw [List.getD_eq_getElem?_getD, List.getElem?_replicate]
  split <;> rfl
theorem head_cost {n : Nat} {l : List UInt8} {S : List SpE} (hz : ∀ i, 40 ≤ i → i < 512 → byteAt l i = 0) (hS : S.map (fun e => (e.off, e.off + e.n)) = diffS l (hd0 n)) : sumN S ≤ 528 := by
  have h := sum9 (i := 0) (j := 40) (fun k hk hk2 => by rw [hz k (by omega) hk, hd0_far n (by omega) hk]) hS
  omega
/-- Behind Format. -/
def fmtV (n : Nat) (V : Pages) : Pages := setPg (layV n V (mapsN n)) 0 (hd0 n)
set_option maxHeartbeats 4000000 in
set_option maxRecDepth 100000 in
theorem sformat_in {w0 w : World} {bp : Nat} {K : List (Nat × Obj)} {nb : Nat} {m : Mst} {U : Pages} {b : Bk} {H : List Ch} {V : Pages} (h : In w0 w bp K nb m U b H V) (c : Nat) (hc : 11 * ((min 4096 b.x.pages + 7) / 8 + 8) ≤ c) (hz : ∀ i, 40 ≤ i → i < 512 → byteAt (V 0) i = 0) (hP : phN b H + (17 * c : Nat) ≤ 380000) :
    Calls Tryz.prog 67 #[.pointer (some ⟨bp, 0, none⟩)] w fun e w' => ∃ r : Int, e = .returned (.int .i64 r) ∧ Hid ((r = 5 ∧ capN b < phN b H + 35 + (mapsN b.x.pages * c : Nat) + 528 ∧ ∃ b' H' V', Did w0 w' bp K nb m U b H V' (mapsN b.x.pages * c : Nat) b' H') ∨ (r = 0 ∧ ∃ b' H', Did w0 w' bp K nb m U b H (fmtV b.x.pages V) ((mapsN b.x.pages * c : Nat) + 528) b' H')) := by
  have hpg := h.pg3
  have WX := swithin_in h.ab (by omega) h.tx.st
  have HQ := ab_pages h.ab
  have FX := sfits_any w b.x.pages (by omega) (by omega)
  have LX := slayMap_any h c hc hP
  have HM : Hid (mapsN b.x.pages * c ≤ 17 * c) := hidI (Nat.mul_le_mul_right c (by unfold mapsN; omega))
  have HH := hidI h
  have HPH := hidI hP
  have HZ := hidI hz
  clear h hc hP hz
  go_enter Tryz.func67, Tryz.ntmps67
  go_wp2_with (first
    | (go_at_call 154; refine WX.mono ?_; rintro e wz ⟨rfl, hz⟩; rw [hz]; clear hz)
    | (go_at_call 24; refine HQ.mono ?_; rintro e wz ⟨rfl, hz⟩; rw [hz]; clear hz)
    | (go_at_call 164; refine FX.mono ?_; rintro e wz ⟨rfl, hz⟩; rw [hz]; clear hz))
  clear WX HQ FX
  refine LX.mono ?_
  rintro e w1 ⟨r, rfl, P⟩
  rcases P.out with ⟨rfl, hf, b1, H1, V1, D1⟩ | ⟨rfl, b1, H1, D1⟩
  · have HD := hidI D1
    have HF := hidI hf
    clear D1 hf
    go_wp2_with fail
    go_ret
    exact ⟨5, rfl, hidI (Or.inl ⟨rfl, by have := HF.out; omega, b1, H1, V1, HD.out⟩)⟩
  · have HD := hidI D1
    have HQ1 := ab_pages D1.i.ab
    rw [D1.tr.pages] at HQ1
    have NX := snewHead_any w1 b.x.pages (by omega)
    clear D1 LX P
    go_wp2_with (first
      | (go_at_call 24; refine HQ1.mono ?_; rintro e wz ⟨rfl, hz⟩; rw [hz]; clear hz)
      | (go_at_call 166; refine NX.mono ?_; rintro e w2 ⟨g, rfl, bl, ng, f2⟩))
    have I2 := HD.out.i.quiet f2
    have hfr : g ∉ b1.dp :: b1.x.own := (HD.out.i.ab.fresh ng).2.1
    have PX := hidI (in_put (c := 528) I2 (page := 0) (by rw [HD.out.tr.pages]; omega) (hd0_length _) (Nat.le_refl _) bl.bytes hfr (by have h1 := HD.out.ph; have h2 := HPH.out; have h3 := HM.out; omega) (fun S hS => head_cost (fun i h1 h2 => by rw [layV_else (by omega)]; exact HZ.out i h1 h2) hS))
    clear I2 hfr bl NX HQ1
    refine PX.out.mono ?_
    rintro e w3 ⟨r, rfl, P3⟩
    go_wp2_with fail
    go_ret
    refine ⟨r, rfl, hidI ?_⟩
    rcases P3.out with ⟨rfl, hf, b3, D3⟩ | ⟨rfl, b3, H3, D3⟩
    · have D := HD.out.trans D3
      refine Or.inl ⟨rfl, ?_, b3, H1, _, D.le (by omega)⟩
      have h1 := HD.out.ph
      have h2 := HD.out.tr.cap
      omega
    · exact Or.inr ⟨rfl, b3, H3, HD.out.trans D3⟩
end Go.Proofs.YtopaeomjndblkaaGreat

namespace Go.Proofs.YtopaeomjndblkaaGreat
open Go.RowKit Go.Maps
open Pg (SpE diffS byteAt)

theorem list_byte {l l2 : List UInt8} (h : l.length = l2.length) (hb : ∀ i, i < l.length → byteAt l i = byteAt l2 i) : l = l2 := by
  refine List.ext_getElem h fun i h1 h2 => ?_
  have h3 := hb i h1
  unfold byteAt at h3
  rw [List.getD_eq_getElem?_getD, List.getD_eq_getElem?_getD, List.getElem?_eq_getElem h1, List.getElem?_eq_getElem h2] at h3
  exact h3
theorem putAt_in {l : List UInt8} {a n i : Nat} (h : a + 4 ≤ l.length) (h1 : a ≤ i) (h2 : i < a + 4) : byteAt (putAt l a n) i = byteAt (be 4 n) (i - a) := by
  have hb4 := be_length 4 n
  have ht : (l.take a).length = a := by rw [List.length_take]; omega
  unfold byteAt putAt
  rw [List.getD_eq_getElem?_getD, List.getD_eq_getElem?_getD, List.getElem?_append_left (by rw [List.length_append]; omega), List.getElem?_append_right (by omega), ht]
theorem numAt_eq {l l2 : List UInt8} {a : Nat} (h : a + 4 ≤ l.length) (h2 : a + 4 ≤ l2.length) (hb : ∀ i, a ≤ i → i < a + 4 → byteAt l i = byteAt l2 i) : numAt l a = numAt l2 a := by
  unfold numAt
  congr 1
  refine list_byte (by simp; omega) fun i hi => ?_
  have hi4 : i < 4 := by simp at hi; omega
  have h3 := hb (a + i) (by omega) (by omega)
  unfold byteAt at h3 ⊢
  rw [List.getD_eq_getElem?_getD, List.getD_eq_getElem?_getD] at h3 ⊢
  rw [List.getElem?_take, if_pos hi4, List.getElem?_drop, List.getElem?_take, if_pos hi4, List.getElem?_drop]
  exact h3
theorem numAt_same {l : List UInt8} {a n : Nat} (h : a + 4 ≤ l.length) (hn : n < 4294967296) : numAt (putAt l a n) a = n := by
  have hb4 := be_length 4 n
  have ht : (l.take a).length = a := by rw [List.length_take]; omega
  unfold numAt putAt
  rw [List.append_assoc, List.drop_left' ht, List.take_left' hb4, ofBe_be]
  exact Nat.mod_eq_of_lt (by simpa using hn)
theorem numAt_else {l : List UInt8} {a a' n : Nat} (h : a + 4 ≤ l.length) (h' : a' + 4 ≤ l.length) (hne : a + 4 ≤ a' ∨ a' + 4 ≤ a) : numAt (putAt l a n) a' = numAt l a' :=
  numAt_eq (by rw [putAt_length _ _ _ h]; exact h') h' fun i h1 h2 => putAt_far h (by omega)
/-- A head of these roots. -/
theorem hdK_byte {n : Nat} {l : List UInt8} : ∀ {k : Nat}, k ≤ 8 → ∀ i, i < 512 → byteAt (hdK n l k) i = if 8 ≤ i ∧ i < 8 + 4 * k then byteAt (be 4 (numAt l (8 + 4 * ((i - 8) / 4)))) ((i - 8) % 4) else byteAt (hd0 n) i
  | 0, _, i, _ => by
    rw [if_neg (by omega)]
    rfl
  | k + 1, hk, i, hi => by
    have ih := hdK_byte (n := n) (l := l) (k := k) (by omega) i hi
    have hl := hdK_length n l k (by omega)
    unfold hdK
    by_cases h : 8 + 4 * k ≤ i ∧ i < 8 + 4 * k + 4
    · rw [putAt_in (by omega) h.1 h.2, if_pos (by omega), show (i - 8) / 4 = k by omega, show (i - 8) % 4 = i - (8 + 4 * k) by omega]
    · rw [putAt_far (by omega) (by omega), ih]
      by_cases h2 : 8 ≤ i ∧ i < 8 + 4 * k
      · rw [if_pos h2, if_pos (by omega)]
      · rw [if_neg h2, if_neg (by omega)]
theorem IsHd.byte {n : Nat} {l : List UInt8} (h : IsHd n l) {i : Nat} (hi : i < 512) (ho : i < 8 ∨ 40 ≤ i) : byteAt l i = byteAt (hd0 n) i := by
  have h1 := hdK_byte (n := n) (l := l) (k := 8) (by omega) i hi
  rw [if_neg (by omega), ← h.2] at h1
  exact h1
theorem isHd_of {n : Nat} {l : List UInt8} (hl : l.length = 512) (hr : ∀ k, k < 8 → numAt l (8 + 4 * k) < n) (hb : ∀ i, i < 512 → (i < 8 ∨ 40 ≤ i) → byteAt l i = byteAt (hd0 n) i) : IsHd n l := by
  refine ⟨hr, list_byte (by rw [hl, hdK_length _ _ _ (by omega)]) fun i hi => ?_⟩
  rw [hl] at hi
  rw [hdK_byte (by omega) i hi]
  by_cases h : 8 ≤ i ∧ i < 8 + 4 * 8
  · rw [if_pos h]
    have e : be 4 (numAt l (8 + 4 * ((i - 8) / 4))) = (l.drop (8 + 4 * ((i - 8) / 4))).take 4 := by
      have h4 : ((l.drop (8 + 4 * ((i - 8) / 4))).take 4).length = 4 := by simp; omega
      have h5 := be_ofBe ((l.drop (8 + 4 * ((i - 8) / 4))).take 4)
      rw [h4] at h5
      exact h5
    rw [e]
    unfold byteAt
    rw [List.getD_eq_getElem?_getD, List.getD_eq_getElem?_getD, List.getElem?_take, if_pos (by omega), List.getElem?_drop]
    congr 2
    omega
  · rw [if_neg h]
    exact hb i hi (by omega)
theorem hd0_is {n : Nat} (hn : 0 < n) : IsHd n (hd0 n) := by
  refine isHd_of (hd0_length n) (fun k hk => ?_) (fun i _ _ => rfl)
  have hz : numAt (hd0 n) (8 + 4 * k) = numAt (zs 512) (8 + 4 * k) := numAt_eq (by rw [hd0_length]; omega) (by rw [zs_length]; omega) fun i h1 h2 => by rw [hd0_far n (by omega) (by omega), zs_byte]
  have h0 : numAt (zs 512) (8 + 4 * k) = 0 := by
    unfold numAt zs
    rw [List.drop_replicate, List.take_replicate, show min 4 (512 - (8 + 4 * k)) = 4 by omega]
    rfl
  omega
theorem hd0_root (n : Nat) {k : Nat} (hk : k < 8) : numAt (hd0 n) (8 + 4 * k) = 0 := by
  have hz : numAt (hd0 n) (8 + 4 * k) = numAt (zs 512) (8 + 4 * k) := numAt_eq (by rw [hd0_length]; omega) (by rw [zs_length]; omega) fun i h1 h2 => by rw [hd0_far n (by omega) (by omega), zs_byte]
  rw [hz]
  unfold numAt zs
  rw [List.drop_replicate, List.take_replicate, show min 4 (512 - (8 + 4 * k)) = 4 by omega]
  rfl
theorem IsHd.put {n : Nat} {l : List UInt8} (h : IsHd n l) (hl : l.length = 512) {k v : Nat} (hk : k < 8) (hv : v < n) (hn : n ≤ 65536) : IsHd n (putAt l (8 + 4 * k) v) := by
  refine isHd_of (by rw [putAt_length _ _ _ (by omega), hl]) (fun j hj => ?_) (fun i hi ho => ?_)
  · by_cases e : j = k
    · subst e
      rw [numAt_same (by omega) (by omega)]
      exact hv
    · rw [numAt_else (by omega) (by omega) (by omega)]
      exact h.1 j hj
  · rw [putAt_far (by omega) (by omega)]
    exact h.byte hi ho
/-- One bit of the map is turned. -/
def bitV (V : Pages) (p : Nat) (f : UInt8 → Nat → UInt8) : Pages := setPg V (1 + p / 4096) ((V (1 + p / 4096)).set (p % 4096 / 8) (f (byteAt (V (1 + p / 4096)) (p % 4096 / 8)) (p % 8)))
theorem bitV_else {V : Pages} {p q : Nat} {f : UInt8 → Nat → UInt8} (h : q ≠ 1 + p / 4096) : bitV V p f q = V q := by
  unfold bitV setPg
  rw [if_neg h]
theorem bitV_set {V : Pages} {p k : Nat} (hl : (V (1 + p / 4096)).length = 512) : MkB (bitV V p setB) k = (MkB V k || decide (k = p)) := by
  unfold MkB
  by_cases e1 : 1 + k / 4096 = 1 + p / 4096
  · have e2 : bitV V p setB (1 + k / 4096) = (V (1 + p / 4096)).set (p % 4096 / 8) (setB (byteAt (V (1 + p / 4096)) (p % 4096 / 8)) (p % 8)) := by
      rw [e1]
      unfold bitV setPg
      rw [if_pos rfl]
    rw [e2, e1]
    by_cases e3 : k % 4096 / 8 = p % 4096 / 8
    · rw [e3, byteAt_set_eq _ (by omega), setB_bit _ (by omega) (by omega)]
      congr 1
      rw [decide_eq_decide]
      omega
    · rw [byteAt_set_ne _ e3, decide_eq_false (by omega), Bool.or_false]
  · rw [bitV_else e1, decide_eq_false (by omega), Bool.or_false]
theorem bitV_clr {V : Pages} {p k : Nat} (hl : (V (1 + p / 4096)).length = 512) : MkB (bitV V p clrB) k = (MkB V k && decide (k ≠ p)) := by
  unfold MkB
  by_cases e1 : 1 + k / 4096 = 1 + p / 4096
  · have e2 : bitV V p clrB (1 + k / 4096) = (V (1 + p / 4096)).set (p % 4096 / 8) (clrB (byteAt (V (1 + p / 4096)) (p % 4096 / 8)) (p % 8)) := by
      rw [e1]
      unfold bitV setPg
      rw [if_pos rfl]
    rw [e2, e1]
    by_cases e3 : k % 4096 / 8 = p % 4096 / 8
    · rw [e3, byteAt_set_eq _ (by omega), clrB_bit _ (by omega) (by omega)]
      congr 1
      rw [decide_eq_decide]
      omega
    · rw [byteAt_set_ne _ e3, decide_eq_true (by omega), Bool.and_true]
  · rw [bitV_else e1, decide_eq_true (by omega), Bool.and_true]
theorem MkB_congr {V V' : Pages} {k : Nat} (h : V' (1 + k / 4096) = V (1 + k / 4096)) : MkB V' k = MkB V k := by
  unfold MkB
  rw [h]
/-- How many of n pages are free. -/
def cntF (V : Pages) : Nat → Nat
  | 0 => 0
  | n + 1 => cntF V n + if MkB V n then 0 else 1
theorem cntF_le (V : Pages) (n : Nat) : cntF V n ≤ n := by
  induction n with
  | zero => exact Nat.le_refl _
  | succ n ih => unfold cntF; split <;> omega
/-- Behind Take of a page. -/
def takeV (V : Pages) (p : Nat) : Pages := bitV (setPg V p (zs 512)) p setB
/-- A space: its head, its own pages. -/
structure Sp (n : Nat) (V : Pages) : Prop where
  hd : IsHd n (V 0)
  own : ∀ k, k < ownN n → MkB V k = true
theorem own_gt {n k : Nat} (hk : k < n) : 1 + k / 4096 < ownN n := by unfold ownN; omega
theorem Sp.free {n : Nat} {V : Pages} (h : Sp n V) {p : Nat} (hp : MkB V p = false) : ownN n ≤ p := by
  refine Nat.not_lt.1 fun hl => ?_
  rw [h.own p hl] at hp
  cases hp
theorem takeV_own {n : Nat} {V : Pages} {p q : Nat} (_hp : p < n) (_ho : ownN n ≤ p) (hq : q ≠ p) (hq2 : q ≠ 1 + p / 4096) : takeV V p q = V q := by
  unfold takeV
  rw [bitV_else hq2]
  unfold setPg
  rw [if_neg hq]
theorem takeV_self {n : Nat} {V : Pages} {p : Nat} (hp : p < n) (ho : ownN n ≤ p) : takeV V p p = zs 512 := by
  have := own_gt hp
  unfold takeV
  rw [bitV_else (by omega)]
  unfold setPg
  rw [if_pos rfl]
theorem takeV_bit {n : Nat} {V : Pages} {p k : Nat} (hp : p < n) (ho : ownN n ≤ p) (hk : k < n) (hl : (V (1 + p / 4096)).length = 512) : MkB (takeV V p) k = (MkB V k || decide (k = p)) := by
  have h1 := own_gt hp
  have h2 := own_gt hk
  have e : ∀ q, q ≠ p → setPg V p (zs 512) q = V q := fun q hq => by unfold setPg; rw [if_neg hq]
  unfold takeV
  rw [bitV_set (by rw [e _ (by omega)]; exact hl), MkB_congr (e _ (by omega))]
theorem Sp.take {n : Nat} {V : Pages} (h : Sp n V) {p : Nat} (hp : p < n) (ho : ownN n ≤ p) (hl : (V (1 + p / 4096)).length = 512) : Sp n (takeV V p) := by
  have h1 := own_gt hp
  refine ⟨by rw [takeV_own hp ho (by omega) (by omega)]; exact h.hd, fun k hk => ?_⟩
  rw [takeV_bit hp ho (by omega) hl, h.own k hk]
  rfl
theorem Sp.give {n : Nat} {V : Pages} (h : Sp n V) {p : Nat} (_hp : p < n) (ho : ownN n ≤ p) (hl : (V (1 + p / 4096)).length = 512) : Sp n (bitV V p clrB) := by
  refine ⟨by rw [bitV_else (by omega)]; exact h.hd, fun k hk => ?_⟩
  rw [bitV_clr hl, h.own k hk, decide_eq_true (by omega)]
  rfl
def rootV (V : Pages) (k v : Nat) : Pages := setPg V 0 (putAt (V 0) (8 + 4 * k) v)
theorem rootV_else {V : Pages} {k v q : Nat} (h : q ≠ 0) : rootV V k v q = V q := by
  unfold rootV setPg
  rw [if_neg h]
theorem rootV_bit {V : Pages} {k v q : Nat} : MkB (rootV V k v) q = MkB V q := MkB_congr (rootV_else (by omega))
theorem rootV_root {V : Pages} {k v j : Nat} (hl : (V 0).length = 512) (hk : k < 8) (hj : j < 8) (hv : v < 4294967296) : numAt (rootV V k v 0) (8 + 4 * j) = if j = k then v else numAt (V 0) (8 + 4 * j) := by
  have e : rootV V k v 0 = putAt (V 0) (8 + 4 * k) v := by unfold rootV setPg; rw [if_pos rfl]
  rw [e]
  by_cases h : j = k
  · subst h
    rw [if_pos rfl, numAt_same (by omega) hv]
  · rw [if_neg h, numAt_else (by omega) (by omega) (by omega)]
theorem Sp.root {n : Nat} {V : Pages} (h : Sp n V) {k v : Nat} (hl : (V 0).length = 512) (hk : k < 8) (hv : v < n) (hn : n ≤ 65536) : Sp n (rootV V k v) := by
  refine ⟨?_, fun q hq => by rw [rootV_bit]; exact h.own q hq⟩
  have e : rootV V k v 0 = putAt (V 0) (8 + 4 * k) v := by unfold rootV setPg; rw [if_pos rfl]
  rw [e]
  exact h.hd.put hl hk hv hn
theorem fmtV_bit {n : Nat} {V : Pages} (hl : ∀ t, t < mapsN n → (V (1 + t)).length = 512) {k : Nat} (hk : k < n) : MkB (fmtV n V) k = decide (k < ownN n) := by
  have e : MkB (fmtV n V) k = MkB (layV n V (mapsN n)) k := MkB_congr (by unfold fmtV setPg; rw [if_neg (by omega)])
  rw [e, layV_bit hl hk]
theorem fmtV_sp {n : Nat} {V : Pages} (hl : ∀ t, t < mapsN n → (V (1 + t)).length = 512) (hn : 3 ≤ n) : Sp n (fmtV n V) := by
  refine ⟨?_, fun k hk => ?_⟩
  · have e : fmtV n V 0 = hd0 n := by unfold fmtV setPg; rw [if_pos rfl]
    rw [e]
    exact hd0_is (by omega)
  · have h2 : k < n := by unfold ownN at hk; omega
    rw [fmtV_bit hl h2, decide_eq_true hk]
theorem fmtV_root {n : Nat} {V : Pages} {k : Nat} (hk : k < 8) : numAt (fmtV n V 0) (8 + 4 * k) = 0 := by
  have e : fmtV n V 0 = hd0 n := by unfold fmtV setPg; rw [if_pos rfl]
  rw [e]
  exact hd0_root n hk
theorem fmtV_else {n : Nat} {V : Pages} {q : Nat} (hq : ownN n ≤ q) : fmtV n V q = V q := by
  have h1 : mapsN n < q := by unfold mapsN; unfold ownN at hq; omega
  unfold fmtV setPg
  rw [if_neg (by omega)]
  exact layV_else (by omega)
end Go.Proofs.YtopaeomjndblkaaGreat

namespace Go.Proofs.YtopaeomjndblkaaGreat
open Go.RowKit Go.Maps

set_option maxHeartbeats 4000000 in
set_option maxRecDepth 100000 in
theorem seachLow {w0 w : World} {bp : Nat} {b : Bk} {K : List (Nat × Obj)} (h : Ab w0 w bp b K) {V : Pages} (hv : Shows b.x V) (hp : 3 ≤ b.x.pages) (hp2 : b.x.pages ≤ 65536) (c : Nat) (s0 : Int) (hc : CelI w c s0) (hcw : w0.heap.size ≤ c) (hcK : ∀ p ∈ K, p.1 ≠ c) :
    Calls Tryz.prog 152 #[.pointer (some ⟨bp, 0, none⟩), .func (.func 220) #[] #[.pointer (some ⟨c, 0, none⟩)]] w fun e w' => e = .returned (.int .i64 0) ∧ ∃ b', Hid (Rd w0 w' bp K b b' ∧ CelI w' c (runF V nxLow false 0 b.x.pages s0)) := by
  have HQ := ab_pages h
  obtain ⟨n, HN⟩ : ∃ n, Hid (b.x.pages = n) := ⟨_, hidI rfl⟩
  obtain ⟨TOT, HT⟩ : ∃ TOT, Hid (runF V nxLow false 0 b.x.pages s0 = TOT) := ⟨_, hidI rfl⟩
  rw [HT.out]
  have HT0 : Hid (runF V nxLow false 0 n s0 = TOT) := hidI (by rw [← HN.out]; exact HT.out)
  rw [HN.out] at HQ hp hp2
  have HH := hidI h
  have HV := hidI hv
  have HC := hidI hc
  have HCW := hidI (And.intro hcw hcK)
  clear h hv hc hcw hcK
  go_enter Tryz.func152, Tryz.ntmps152
  go_wp2
  go_step3
  go_wp2_with (go_at_call 24; refine HQ.mono ?_; rintro e wz ⟨rfl, hz⟩; rw [hz]; clear hz)
  go_step3
  go_wp2
  clear HQ
  go_loopg [6] 17 (fun g0 s6 wx => ∃ (t : Nat) (s : Int) (b1 : Bk), t + g0 = 17 ∧ s6 = .int .i64 ((4096 * t : Nat) : Int) ∧ Hid (Rd w0 wx bp K b b1 ∧ CelI wx c s ∧ runF V nxLow false (4096 * t) (n - 4096 * t) s = TOT))
  case atStart => exact ⟨0, s0, b, by omega, rfl, hidI ⟨Rd.refl HH.out, HC.out, HT0.out⟩⟩
  case round =>
    obtain ⟨t, s, b1, ht, rfl, HI⟩ := hrel
    by_cases hlt : 4096 * t < n
    · have q0 : ((4096 * t : Nat) : Int) < (n : Int) := by omega
      obtain ⟨g0, rfl⟩ : ∃ g0, gk = g0 + 1 := ⟨gk - 1, by omega⟩
      have LX := splace_any wr (4096 * t) (by omega)
      have e1 : 1 + 4096 * t / 4096 = 1 + t := by omega
      have e2 : 4096 * t % 4096 / 8 = 0 := by omega
      have e3 : 2 ^ (4096 * t % 8) = 1 := by rw [show 4096 * t % 8 = 0 by omega]
      rw [e1, e2, e3] at LX
      clear e1 e2 e3
      have HPG : Hid (∀ w1, Fr [] wr w1 → Calls Tryz.prog 28 #[.pointer (some ⟨bp, 0, none⟩), .int .i64 ((1 + t : Nat) : Int)] w1 fun e w' => ∃ g b', e = .returned (.tuple #[.slice (some ⟨g, 0, none⟩) 512 512, .int .i64 0]) ∧ Hid (EF w0 w' bp K b b' c s g (V (1 + t)))) := hidI (fun w1 f1 => by
        obtain ⟨rd, cl, hr⟩ := HI.out
        have hp1 : b1.x.pages = n := by rw [rd.tr.pages]; exact HN.out
        have A1 := (rd.ab.quiet f1)
        have C1 : CelI w1 c s := cl.kept f1 (by simp)
        have A2 := A1.add C1 (A1.celOut C1)
        refine (rd_page A2 (rd.sh V HV.out) (page := 1 + t) (by omega)).mono ?_
        rintro e w' ⟨g, b', he, P⟩
        obtain ⟨r2, bl, _, _⟩ := P.out
        exact ⟨g, b', he, hidI ⟨(rd.trans r2).on (r2.ab.less (fun p hp => List.mem_cons_of_mem _ hp)), (r2.ab.kp _ List.mem_cons_self).1, bl, HCW.out.1, HCW.out.2⟩⟩)
      generalize hfv : ((4096 * t : Nat) : Int) = fv at q0 LX
      have hf0 : 0 ≤ fv := by omega
      have hf1 : fv ≤ 65536 := by omega
      go_wp2_with (first
        | (go_at_call 219; refine LX.mono ?_; rintro e w1 ⟨rfl, f1⟩)
        | (go_at_call 28; refine (HPG.out _ f1).mono ?_; rintro e w2 ⟨g, b2, rfl, HE0⟩))
      have HR0 : Hid (runF V nxLow false (4096 * t) (n - 4096 * t) s = TOT) := hidI HI.out.2.2
      clear HPG LX HI
      go_loopg [40] 512 (fun g2 s40 wy => ∃ (a : Nat) (s : Int), a + g2 = 512 ∧ s40 = .int .i64 (a : Int) ∧ Hid (EF w0 wy bp K b b2 c s g (V (1 + t)) ∧ runF V nxLow false (4096 * t + 8 * a) (n - (4096 * t + 8 * a)) s = TOT))
      case atStart => exact ⟨0, s, by omega, rfl, hidI ⟨HE0.out, HR0.out⟩⟩
      case round =>
        obtain ⟨a, s, ha, rfl, HE⟩ := hrel
        by_cases hlt2 : a < 512
        · have q1 : (a : Int) < 512 := by omega
          obtain ⟨g2, rfl⟩ : ∃ g2, gk = g2 + 1 := ⟨gk - 1, by omega⟩
          obtain ⟨x, HX⟩ : ∃ x : Nat, Hid ((byteAt (V (1 + t)) a).toNat = x) := ⟨_, hidI rfl⟩
          have hx : x < 256 := by rw [← HX.out]; exact (byteAt (V (1 + t)) a).toNat_lt
          have hl5 : (V (1 + t)).length = 512 := HH.out.len HV.out (by have := HN.out; omega)
          have c0 := HE.out.1.bl.cell a (by rw [hl5]; exact hlt2)
          rw [HX.out] at c0
          by_cases h255 : x = 255
          · have hskip := runF_skip (V := V) (nx := nxLow) (go := false) (n := n) (s := s) 8 (4096 * t + 8 * a) (fun i hi => by rw [bit_of hlt2 hi, HX.out, h255]; exact all_255 ⟨i, hi⟩)
            have HSK := hidI hskip
            have d0 : ((x : Int) == 255) = true := by rw [h255]; rfl
            have H255 := hidI h255
            clear hskip h255
            go_wp2
            go_roundg g2
            case measure => omega
            case rel => exact ⟨a + 1, s, by omega, by go_num, hidI ⟨HE.out.1, by rw [show 4096 * t + 8 * (a + 1) = 4096 * t + 8 * a + 8 by omega, ← HSK.out]; exact HE.out.2⟩⟩
          · have d0 : ((x : Int) == 255) = false := by rw [beq_eq_false_iff_ne]; omega
            clear h255
            go_wp2
            go_loopg [47] 8 (fun g3 s47 wy => ∃ (i : Nat) (s : Int), i + g3 = 8 ∧ s47 = .int .i64 (i : Int) ∧ Hid (EF w0 wy bp K b b2 c s g (V (1 + t)) ∧ runF V nxLow false (4096 * t + 8 * a + i) (n - (4096 * t + 8 * a + i)) s = TOT))
            case atStart => exact ⟨0, s, by omega, rfl, HE⟩
            case round =>
              obtain ⟨i, s, hi, rfl, HE⟩ := hrel
              clear c0
              by_cases hlt3 : i < 8
              · have q2 : (i : Int) < 8 := by omega
                obtain ⟨g3, rfl⟩ : ∃ g3, gk = g3 + 1 := ⟨gk - 1, by omega⟩
                obtain ⟨p, HPp⟩ : ∃ p : Nat, Hid (4096 * t + 8 * a + i = p) := ⟨_, hidI rfl⟩
                have hpv : fv + 8 * (a : Int) + (i : Int) = (p : Int) := by have := HPp.out; omega
                have w1' : IntKind.i64.wrap (8 * (a : Int)) = 8 * (a : Int) := wrapI _ (by omega) (by omega)
                have w2' : IntKind.i64.wrap (fv + 8 * (a : Int)) = fv + 8 * (a : Int) := wrapI _ (by omega) (by omega)
                have w3' : IntKind.i64.wrap (fv + 8 * (a : Int) + (i : Int)) = (p : Int) := by rw [wrapI _ (by omega) (by omega)]; exact hpv
                rw [HPp.out] at HE
                by_cases hpn : p < n
                · have q3 : ¬ (n : Int) ≤ (p : Int) := by omega
                  have hb1 := shr1 x i hx hlt3
                  have hmk0 : MkB V p = x.testBit i := by rw [← HPp.out, bit_of hlt2 hlt3, HX.out]
                  cases hbi : x.testBit i with
                  | true =>
                    rw [hbi] at hb1 hmk0
                    have hb2 : (bits .and .u8 ((x : Int) / 2 ^ i) 1 == 0) = false := hb1
                    have hnx := hidI (runF_set (V := V) (nx := nxLow) (go := false) (s := s) hpn hmk0)
                    clear hb1 hbi hmk0
                    go_wp2
                    go_roundg g3
                    case measure => omega
                    case rel => exact ⟨i + 1, s, by omega, by go_num, hidI ⟨HE.out.1, by rw [show 4096 * t + 8 * a + (i + 1) = p + 1 by have := HPp.out; omega, ← hnx.out]; exact HE.out.2⟩⟩
                  | false =>
                    rw [hbi] at hb1 hmk0
                    have hb2 : (bits .and .u8 ((x : Int) / 2 ^ i) 1 == 0) = true := hb1
                    have hnx := hidI (runF_end (V := V) (nx := nxLow) (s := s) hpn hmk0)
                    have RC := hidI (slow1_any wr c p s HE.out.1.cl)
                    clear hb1 hbi hmk0
                    go_wp2_with (go_at_call 220; refine RC.out.mono ?_; rintro e w9 ⟨rfl, hc9, f9⟩)
                    (try rw [Exit.noGoto_ret])
                    go_ret
                    refine ⟨rfl, b2, hidI ⟨(HE.out.1.step hc9 f9).rd, ?_⟩⟩
                    have h8 := HE.out.2
                    rw [hnx.out] at h8
                    rw [← h8]
                    exact hc9
                · have q3 : (n : Int) ≤ (p : Int) := by omega
                  have hen := hidI (runF_out (V := V) (nx := nxLow) (go := false) (s := s) (n := n) (j := p) (by omega))
                  go_wp2
                  (try rw [Exit.noGoto_ret])
                  go_ret
                  refine ⟨rfl, b2, hidI ⟨HE.out.1.rd, ?_⟩⟩
                  have h8 := HE.out.2
                  rw [hen.out] at h8
                  rw [← h8]
                  exact HE.out.1.cl
              · have q2 : ¬ (i : Int) < 8 := by omega
                have hi8 : i = 8 := by omega
                go_wp2
                go_roundg g2
                case measure => omega
                case rel => exact ⟨a + 1, s, by omega, by go_num, hidI ⟨HE.out.1, by rw [show 4096 * t + 8 * (a + 1) = 4096 * t + 8 * a + i by omega]; exact HE.out.2⟩⟩
        · have q1 : ¬ (a : Int) < 512 := by omega
          have ha5 : a = 512 := by omega
          have w4 : IntKind.i64.wrap (fv + 4096) = fv + 4096 := wrapI _ (by omega) (by omega)
          go_wp2
          go_roundg g0
          case measure => omega
          case rel => exact ⟨t + 1, s, b2, by omega, by congr 1; omega, hidI ⟨HE.out.1.rd, HE.out.1.cl, by rw [show 4096 * (t + 1) = 4096 * t + 8 * a by omega]; exact HE.out.2⟩⟩
    · have q0 : ¬ ((4096 * t : Nat) : Int) < (n : Int) := by omega
      have hen := hidI (runF_out (V := V) (nx := nxLow) (go := false) (s := s) (n := n) (j := 4096 * t) (by omega))
      go_wp2
      (try rw [Exit.noGoto_ret])
      go_ret
      refine ⟨rfl, b1, hidI ⟨HI.out.1, ?_⟩⟩
      have h8 := HI.out.2.2
      rw [hen.out] at h8
      rw [← h8]
      exact HI.out.2.1
end Go.Proofs.YtopaeomjndblkaaGreat

