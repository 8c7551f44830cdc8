/-
  LabelKids, walked.
-/
import Derived.Test.YtddcilmeignlmaaDoorLRKids
import Derived.Test.YtddcilmeignlmaaDoorLAw
namespace Go.Proofs.YtddcilmeignlmaaDoor
open Go.RowKit Go.Maps Go.Lib

set_option maxHeartbeats 2000000 in
set_option maxRecDepth 100000 in
theorem rkids_none (w : World) (ad : Option Addr) (m c : Nat) (l : List UInt8) (hno : ∀ ss, ¬ Lab l ss) (hl : l.length = m) (hb : BytesAt w ad l) (n : Int) :
    Calls Tryd.prog 9 #[.slice ad m c, .int .i64 n] w fun e w' => e = .returned (.tuple #[.slice none 0 0, .int .i64 2]) ∧ Fr [] w w' := by
  have cS := Lib.hid (rsteps_no w ad m c l hl hb hno)
  clear hno hl hb
  go_enter Tryd.func9, Tryd.ntmps9
  go_wp2_with (go_at_call 27; refine cS.out.mono ?_; rintro e w1 ⟨rfl, f1⟩)
  go_ret2
  exact ⟨rfl, f1⟩
set_option maxHeartbeats 2000000 in
set_option maxRecDepth 100000 in
theorem rkids_out (w : World) (ad : Option Addr) (m c : Nat) (l : List UInt8) (pp : List (List Bool)) (L : Lab l pp) (hl : l.length = m) (hb : BytesAt w ad l) (n : Int) (hn : n < 0 ∨ 16384 < n) :
    Calls Tryd.prog 9 #[.slice ad m c, .int .i64 n] w fun e w' => e = .returned (.tuple #[.slice none 0 0, .int .i64 2]) ∧ Fr [] w w' := by
  have cS := Lib.hid (rsteps_yes w ad m c l hl hb pp L)
  clear L hl hb
  rcases hn with hn | hn
  · go_enter Tryd.func9, Tryd.ntmps9
    go_wp2_with (go_at_call 27; refine cS.out.mono ?_; rintro e w1 ⟨v6, rfl, hS6, f1⟩; clear hS6)
    go_ret2
    exact ⟨rfl, f1⟩
  · have hn0 : ¬ n < 0 := by omega
    go_enter Tryd.func9, Tryd.ntmps9
    go_wp2_with (go_at_call 27; refine cS.out.mono ?_; rintro e w1 ⟨v6, rfl, hS6, f1⟩; clear hS6)
    go_ret2
    exact ⟨rfl, f1⟩

/-- A row of lists in memory. -/
def Row2 (w : World) (v : Value) (Ls : List (List UInt8)) : Prop := ∃ ad cap, v = .slice ad Ls.length cap ∧ ∀ (i : Nat) l, Ls[i]? = some l → ∃ b xa xc, ad = some ⟨b, 0, none⟩ ∧ w.cell? ⟨b, i, none⟩ = some (.slice xa l.length xc) ∧ BytesAt w xa l
theorem Row2.kept {w w' : World} {v : Value} {Ls : List (List UInt8)} (h : Row2 w v Ls) (f : Fr [] w w') : Row2 w' v Ls := by
  obtain ⟨ad, cap, rfl, hh⟩ := h
  refine ⟨ad, cap, rfl, fun i l hi => ?_⟩
  obtain ⟨b, xa, xc, e, h1, h2⟩ := hh i l hi
  exact ⟨b, xa, xc, e, cell_fr h1 f (by simp), h2.kept f (by simp)⟩
theorem Row2.nil (w : World) : Row2 w (.slice none 0 0) [] := ⟨none, 0, rfl, fun i l hi => by simp at hi⟩
theorem out_bytes {w w' : World} {v : Value} {l : List UInt8} (h : Out w w' v l) : ∃ ad cap, v = .slice ad l.length cap ∧ BytesAt w' ad l := by
  obtain ⟨ad, cap, rfl, h1⟩ := h
  have h2 : Own w w' (.slice ad l.length cap) l.length (arr l).toList → BytesAt w' ad l := fun o => by
    obtain ⟨ad', cap', e, hb, _⟩ := o.form
    cases e
    exact hb
  refine ⟨ad, cap, rfl, ?_⟩
  intro j v hv
  have hj : j < l.length := by have := (List.getElem?_eq_some_iff.1 hv).1; simpa [arr] using this
  rcases h1.2 with ⟨e, hn⟩ | ⟨g, cap2, cur, e, hB, hh, hcap, _, hcs, htk⟩
  · omega
  · cases e
    refine ⟨g, 0, rfl, ?_⟩
    rw [Nat.zero_add, cell_of_row w' g j _ _ _ hh]
    rw [← htk, List.getElem?_take, if_pos (by omega)] at hv
    simpa using hv
/-- What a label's children are. -/
def KidsAre (l : List UInt8) (n : Int) (Ls : List (List UInt8)) (E : Int) : Prop :=
  (((∀ ss, ¬ Lab l ss) ∨ n < 0 ∨ 16384 < n) ∧ Ls = [] ∧ E = 2) ∨
  (∃ (pp : List (List Bool)) (m K : Nat), Lab l pp ∧ n = (m : Int) ∧ m ≤ 300 ∧ Wide m K ∧ ((Ls.length = m ∧ (∀ i, i < m → ∃ x, Ls[i]? = some x ∧ Lab x (pp ++ [kidS K (i + 1)])) ∧ E = 0) ∨ ((∃ i, i < m ∧ 1024 < (enc (pp ++ [kidS K (i + 1)])).length) ∧ Ls = [] ∧ E = 140)))
theorem wide_one {n K J : Nat} (h : Wide n K) (g : Wide n J) : K = J := by
  have key : ∀ a b : Nat, Wide n a → Wide n b → ¬ a < b := fun a b ha hb hab => by
    rcases hb.2 with e | e
    · omega
    · have h1 := ha.1
      have : 2 ^ a ≤ 2 ^ (b - 1) := Nat.pow_le_pow_right (by omega) (by omega)
      omega
  have h1 := key K J h g
  have h2 := key J K g h
  omega
theorem kidsAre_one {l : List UInt8} {n : Int} {Ls Ms : List (List UInt8)} {E F : Int} (h : KidsAre l n Ls E) (g : KidsAre l n Ms F) : Ls = Ms ∧ E = F := by
  rcases h with ⟨h1, rfl, rfl⟩ | ⟨pp, m, K, L, rfl, hm, hW, h⟩
  · rcases g with ⟨_, rfl, rfl⟩ | ⟨pp, m, K, L, rfl, hm, hW, g⟩
    · exact ⟨rfl, rfl⟩
    · rcases h1 with h1 | h1 | h1
      · exact absurd L (h1 pp)
      · omega
      · omega
  · rcases g with ⟨h1, rfl, rfl⟩ | ⟨qq, m', J, M, e, hm', hV, g⟩
    · rcases h1 with h1 | h1 | h1
      · exact absurd L (h1 pp)
      · omega
      · omega
    · obtain rfl : m = m' := by omega
      obtain rfl := lab_inj L M
      obtain rfl := wide_one hW hV
      rcases h with ⟨hl, hk, rfl⟩ | ⟨⟨i, hi, hb⟩, rfl, rfl⟩
      · rcases g with ⟨gl, gk, rfl⟩ | ⟨⟨i, hi, hb⟩, rfl, rfl⟩
        · refine ⟨List.ext_getElem? fun i => ?_, rfl⟩
          by_cases hi : i < m
          · obtain ⟨x, e1, L1⟩ := hk i hi
            obtain ⟨y, e2, L2⟩ := gk i hi
            rw [e1, e2, lab_same L1 L2]
          · rw [List.getElem?_eq_none (by omega), List.getElem?_eq_none (by omega)]
        · obtain ⟨x, _, L1⟩ := hk i hi
          have := L1.most
          omega
      · rcases g with ⟨gl, gk, rfl⟩ | ⟨_, rfl, rfl⟩
        · obtain ⟨x, _, L1⟩ := gk i hi
          have := L1.most
          omega
        · exact ⟨rfl, rfl⟩
/-- Children made are a row of lists. -/
theorem kto_row {w w' : World} {v : Value} {n : Nat} {xs : List Value} {pp : List (List Bool)} {K : Nat} (h : KTo w w' v n xs pp K) : ∃ Ls : List (List UInt8), Ls.length = n ∧ (∀ i, i < n → ∃ x, Ls[i]? = some x ∧ Lab x (pp ++ [kidS K (i + 1)])) ∧ Row2 w' v Ls := by
  have hxl : xs.length = n := by have := h.own.1; omega
  have hex : ∀ i : Fin n, ∃ l : List UInt8, Lab l (pp ++ [kidS K (i.1 + 1)]) ∧ ∃ x, xs[i.1]? = some x ∧ Out w w' x l := fun i => by
    obtain ⟨x, l, h1, h2, h3⟩ := h.kids i.1 i.2
    exact ⟨l, h2, x, h1, h3⟩
  refine ⟨List.ofFn fun i => (hex i).choose, by simp, fun i hi => ⟨(hex ⟨i, hi⟩).choose, by simp [hi], (hex ⟨i, hi⟩).choose_spec.1⟩, ?_⟩
  have hlen : (List.ofFn fun i => (hex i).choose).length = n := by simp
  rcases h.own.2 with ⟨rfl, e⟩ | ⟨g, cap, cur, rfl, hB, hh, hcap, _, hcs, htk⟩
  · refine ⟨none, 0, by rw [hlen, e], fun i l hi => ?_⟩
    have := (List.getElem?_eq_some_iff.1 hi).1
    omega
  · refine ⟨some ⟨g, 0, none⟩, cap, by rw [hlen], fun i l hi => ?_⟩
    have hin : i < n := by have := (List.getElem?_eq_some_iff.1 hi).1; omega
    obtain ⟨x, hx, ho⟩ := (hex ⟨i, hin⟩).choose_spec.2
    have el : (hex ⟨i, hin⟩).choose = l := by simpa [hin] using hi
    rw [el] at ho
    obtain ⟨xa, xc, rfl, hb⟩ := out_bytes ho
    refine ⟨g, xa, xc, rfl, ?_, hb⟩
    rw [cell_of_row w' g i _ _ _ hh]
    have hx' : xs[i]? = some (.slice xa l.length xc) := hx
    rw [← htk, List.getElem?_take, if_pos (by omega)] at hx'
    simpa using hx'
end Go.Proofs.YtddcilmeignlmaaDoor

namespace Go.Proofs.YtddcilmeignlmaaDoor
open Go.RowKit Go.Maps Go.Lib

theorem wide_ex (n : Nat) : ∃ K, Wide n K := by
  obtain ⟨k, hk1, hk2⟩ := top_ex n
  by_cases h0 : n = 0
  · subst h0
    exact ⟨0, by simp, Or.inl rfl⟩
  · refine ⟨k + 1, ?_, Or.inr ?_⟩
    · have hp : 0 < 2 ^ k := Nat.pow_pos (by omega)
      rw [Nat.div_lt_iff_lt_mul hp] at hk1
      rw [Nat.pow_succ]
      omega
    · rw [Nat.add_sub_cancel]
      rcases hk2 with e | e
      · subst e; simp; omega
      · exact e
theorem wide_top {n k K : Nat} (h0 : n ≠ 0) (hk : n / 2 ^ k < 2 ∧ (k = 0 ∨ 2 ^ k ≤ n)) (hK : Wide n K) : K = k + 1 := by
  refine wide_one hK ⟨?_, Or.inr ?_⟩
  · have hp : 0 < 2 ^ k := Nat.pow_pos (by omega)
    have hk1 := hk.1
    rw [Nat.div_lt_iff_lt_mul hp] at hk1
    rw [Nat.pow_succ]
    omega
  · rw [Nat.add_sub_cancel]
    rcases hk.2 with e | e
    · subst e; simp; omega
    · exact e
def KidsTo (l : List UInt8) (n : Int) (w : World) (e : Ending) (w' : World) : Prop := ∃ v Ls E, e = .returned (.tuple #[v, .int .i64 E]) ∧ KidsAre l n Ls E ∧ Row2 w' v Ls ∧ Fr [] w w'
theorem KidsTo.no {l : List UInt8} {n : Int} {w w' : World} (h : (∀ ss, ¬ Lab l ss) ∨ n < 0 ∨ 16384 < n) (f : Fr [] w w') : KidsTo l n w (.returned (.tuple #[.slice none 0 0, .int .i64 2])) w' :=
  ⟨_, [], 2, rfl, Or.inl ⟨h, rfl, rfl⟩, Row2.nil _, f⟩
theorem kidsP_any (w : World) (hL : Laid w) (ad : Option Addr) (m c : Nat) (l : List UInt8) (hl : l.length = m) (hb : BytesAt w ad l) (hp : Plain ad) (hm : m ≤ 1000) (n : Int) (hn : ¬ (300 < n ∧ n ≤ 16384)) :
    Calls Tryd.prog 8 #[.slice ad m c, .int .i64 n] w (KidsTo l n w) := by
  by_cases hlab : ∃ pp, Lab l pp
  · obtain ⟨pp, L⟩ := hlab
    by_cases h0 : n < 0
    · exact (kids_few w ad m c l pp L hl hb hp n h0).mono fun e w' ⟨he, f⟩ => he ▸ KidsTo.no (Or.inr (Or.inl h0)) f
    by_cases h1 : 16384 < n
    · exact (kids_many w ad m c l pp L hl hb hp n h1).mono fun e w' ⟨he, f⟩ => he ▸ KidsTo.no (Or.inr (Or.inr h1)) f
    obtain ⟨k, rfl⟩ : ∃ k : Nat, n = k := ⟨n.toNat, by omega⟩
    obtain ⟨K, hW⟩ := wide_ex k
    obtain ⟨t, ht⟩ := top_ex k
    refine (kids_ok w hL ad m c l pp L hl hb hp k t (by omega) ht).mono ?_
    rintro e w' (⟨v, xs, rfl, hK⟩ | ⟨i, hi, rfl, hgt, f⟩)
    · obtain ⟨Ls, h1, h2, h3⟩ := kto_row hK
      refine ⟨v, Ls, 0, rfl, Or.inr ⟨pp, k, K, L, rfl, by omega, hW, Or.inl ⟨h1, fun i hi => ?_, rfl⟩⟩, h3, hK.fr⟩
      rw [wide_top (by omega) ht hW]
      exact h2 i hi
    · refine ⟨_, [], 140, rfl, Or.inr ⟨pp, k, K, L, rfl, by omega, hW, Or.inr ⟨⟨i, hi, ?_⟩, rfl, rfl⟩⟩, Row2.nil _, f⟩
      rw [wide_top (by omega) ht hW]
      exact hgt
  · have hno : ∀ ss, ¬ Lab l ss := fun ss h => hlab ⟨ss, h⟩
    exact (kids_none w ad m c l hno hl hb hp (by omega) n).mono fun e w' ⟨he, f⟩ => he ▸ KidsTo.no (Or.inl hno) f
theorem kidsR_any (w : World) (ad : Option Addr) (m c : Nat) (l : List UInt8) (hl : l.length = m) (hb : BytesAt w ad l) (n : Int) (hn : ¬ (300 < n ∧ n ≤ 16384)) :
    Calls Tryd.prog 9 #[.slice ad m c, .int .i64 n] w (KidsTo l n w) := by
  by_cases hlab : ∃ pp, Lab l pp
  · obtain ⟨pp, L⟩ := hlab
    by_cases h0 : n < 0 ∨ 16384 < n
    · exact (rkids_out w ad m c l pp L hl hb n h0).mono fun e w' ⟨he, f⟩ => he ▸ KidsTo.no (Or.inr h0) f
    obtain ⟨k, rfl⟩ : ∃ k : Nat, n = k := ⟨n.toNat, by omega⟩
    obtain ⟨K, hW⟩ := wide_ex k
    refine (rkids_ok w ad m c l pp L hl hb k K (by omega) hW).mono ?_
    rintro e w' (⟨v, xs, rfl, hK⟩ | ⟨i, hi, rfl, hgt, f⟩)
    · obtain ⟨Ls, h1, h2, h3⟩ := kto_row hK
      exact ⟨v, Ls, 0, rfl, Or.inr ⟨pp, k, K, L, rfl, by omega, hW, Or.inl ⟨h1, h2, rfl⟩⟩, h3, hK.fr⟩
    · exact ⟨_, [], 140, rfl, Or.inr ⟨pp, k, K, L, rfl, by omega, hW, Or.inr ⟨⟨i, hi, hgt⟩, rfl, rfl⟩⟩, Row2.nil _, f⟩
  · have hno : ∀ ss, ¬ Lab l ss := fun ss h => hlab ⟨ss, h⟩
    exact (rkids_none w ad m c l hno hl hb n).mono fun e w' ⟨he, f⟩ => he ▸ KidsTo.no (Or.inl hno) f
theorem kidsAre_small {l : List UInt8} {n : Int} {Ls : List (List UInt8)} {E : Int} (h : KidsAre l n Ls E) : Ls.length ≤ 300 ∧ ∀ x ∈ Ls, x.length ≤ 128 := by
  rcases h with ⟨_, rfl, _⟩ | ⟨pp, m, K, L, rfl, hm, hW, ⟨h1, h2, _⟩ | ⟨_, rfl, _⟩⟩
  · exact ⟨by simp, fun x hx => nomatch hx⟩
  · refine ⟨by omega, fun x hx => ?_⟩
    obtain ⟨i, hi, rfl⟩ := List.mem_iff_getElem.1 hx
    obtain ⟨y, e, L1⟩ := h2 i (by omega)
    rw [List.getElem?_eq_getElem hi] at e
    obtain rfl := Option.some.inj e
    exact lab_len L1
  · exact ⟨by simp, fun x hx => nomatch hx⟩
set_option maxHeartbeats 4000000 in
set_option maxRecDepth 100000 in
theorem pieces_any (w : World) (v1 v2 : Value) (Ls : List (List UInt8)) (h1 : Row2 w v1 Ls) (h2 : Row2 w v2 Ls) (hn : Ls.length ≤ 300) (hs : ∀ x ∈ Ls, x.length ≤ 128) :
    Calls Tryd.prog 10 #[v1, v2] w fun e w' => e = .returned (.bool true) ∧ Fr [] w w' := by
  obtain ⟨ad1, cap1, rfl, _⟩ := h1
  rename_i r1
  obtain ⟨ad2, cap2, rfl, r2⟩ := h2
  obtain ⟨n, hnn⟩ : ∃ n, Ls.length = n := ⟨_, rfl⟩
  have hn' : (n : Int) ≤ 300 := by omega
  have R1 := Lib.hid r1
  have R2 := Lib.hid r2
  have HS := Lib.hid hs
  have HN := Lib.hid hnn
  rw [hnn]
  clear r1 r2 hs hnn
  go_enter Tryd.func10, Tryd.ntmps10
  go_wp2_with go_in
  go_loopw [5] (fun i wr => ∃ j : Nat, j ≤ n ∧ i = .int .i64 j ∧ Hid (Fr [] w wr)) (fun i _ => n - (RowKit.intOf i).toNat)
  case atStart => exact ⟨0, by omega, rfl, Lib.hid (Fr.refl _ _)⟩
  case round =>
    obtain ⟨j, hj, rfl, f⟩ := hrel
    have hj0 : (0 : Int) ≤ (j : Int) := by omega
    by_cases hlt : j < n
    · have hlt' : (j : Int) < (n : Int) := by omega
      have hjl : j < Ls.length := by rw [HN.out]; exact hlt
      have hx := List.getElem?_eq_getElem hjl
      have hsm := HS.out _ (List.getElem_mem hjl)
      generalize Ls[j] = x at hx hsm
      obtain ⟨b1, xa1, xc1, rfl, c1, d1⟩ := R1.out j x hx
      obtain ⟨b2, xa2, xc2, rfl, c2, d2⟩ := R2.out j x hx
      have HC : Hid (∀ w', Fr [] w w' → w'.cell? ⟨b1, j, none⟩ = some (.slice xa1 x.length xc1) ∧ w'.cell? ⟨b2, j, none⟩ = some (.slice xa2 x.length xc2)) := fun w' g => ⟨cell_fr c1 g (by simp), cell_fr c2 g (by simp)⟩
      have cS : Hid (∀ w', Fr [] w w' → Calls Tryd.prog 17 #[.slice xa1 x.length xc1, .slice xa2 x.length xc2] w' fun e w'' => e = .returned (.bool true) ∧ Fr [] w' w'') := fun w' g => by
        refine (same_any w' xa1 xa2 x x x.length xc1 xc2 (d1.kept g (by simp)) (d2.kept g (by simp)) rfl rfl (by omega)).mono ?_
        rintro e w'' ⟨rfl, f⟩
        exact ⟨by rw [beq_self_eq_true], f⟩
      generalize x.length = q at HC cS
      clear c1 d1 c2 d2 hx hsm hjl
      have gg : Fr [] w wr.drew := f.out.drew
      have HF := f
      clear f
      go_wp2_with fail
      go_region_held3 (fun w' => w'.cell? ⟨b1, j, none⟩ = some (.slice xa1 q xc1) ∧ w'.cell? ⟨b2, j, none⟩ = some (.slice xa2 q xc2)) (exact HC.out _ gg)
        ((go_at_call 17; refine (cS.out _ gg).mono ?_; rintro e w5 ⟨rfl, f5⟩; replace gg := gg.trans f5))
      all_goals
        go_wp2_with fail
        exact ⟨⟨j + 1, by omega, by go_num, Lib.hid gg⟩, by simp [RowKit.intOf]; omega⟩
    · obtain rfl : j = n := by omega
      go_wp2
      go_ret
      exact ⟨rfl, f.out⟩

theorem lent_both (w : World) (ad : Option Addr) (n c : Nat) (l : List UInt8) (hl : l.length = n) (hn : n ≤ 5000) (hb : BytesAt w ad l) (hc : ad = none → c = 0) :
    Calls Tryd.prog 7 #[.slice ad n c] w fun e w' => ∃ g cap, e = .returned (.slice (some ⟨g, 0, none⟩) n cap) ∧ LentAt w' g cap l ∧ w.heap.size ≤ g ∧ Fr [] w w' := by
  cases ad with
  | none =>
    obtain rfl : c = 0 := hc rfl
    have h0 : n = 0 := by
      rcases Nat.eq_zero_or_pos n with h | h
      · exact h
      · obtain ⟨b, off, e, _⟩ := hb.at 0 (by omega)
        cases e
    subst h0
    obtain rfl : l = [] := List.eq_nil_of_length_eq_zero hl
    exact lent_nil w 0 [] rfl (by omega) rfl
  | some a0 => exact lent_any w a0 n c l hl hn hb
set_option maxHeartbeats 4000000 in
set_option maxRecDepth 100000 in
theorem kids_law (w : World) (hL : Laid w) (ad : Option Addr) (m c : Nat) (l : List UInt8) (hl : l.length = m) (hb : BytesAt w ad l) (hc : ad = none → c = 0) (hm : m ≤ 1000) (n : Int) (hn : ¬ (300 < n ∧ n ≤ 16384)) :
    Calls Tryd.prog 3 #[.slice ad m c, .int .i64 n] w fun e w' => e = .returned (.bool true) ∧ Fr [] w w' := by
  have hm' : ¬ (1000 : Int) < (m : Int) := by omega
  have cA := Lib.hid (awake_any w hL)
  have cL := Lib.hid (fun w' (f : Fr [] w w') => lent_both w' ad m c l hl (by omega) (hb.kept f (by simp)) hc)
  have cP := Lib.hid (fun w' (f : Fr [] w w') g cap (le : LentAt w' g cap l) => kidsP_any w' (hL.kept f) (some ⟨g, 0, none⟩) m cap l hl le.bytes (Or.inr ⟨g, 0, rfl⟩) hm n hn)
  have cR := Lib.hid (fun w' (f : Fr [] w w') => kidsR_any w' ad m c l hl (hb.kept f (by simp)) n hn)
  have cK := Lib.hid (fun w' (f : Fr [] w w') g cap (le : LentAt w' g cap l) => kept_any w' g cap m c ad l hl (by omega) le (hb.kept f (by simp)))
  clear hL hl hb hc hm
  by_cases h3 : 300 < n
  · have h4 : ¬ n ≤ 16384 := fun h => hn ⟨h3, h⟩
    clear hn
    go_enter Tryd.func3, Tryd.ntmps3
    go_wp2_with (first
      | (go_at_call 6; refine (cA.out).mono ?_; rintro e w1 ⟨rfl, f1⟩)
      | (go_at_call 7; refine (cL.out _ f1).mono ?_; rintro e w2 ⟨g, cap, rfl, le2, hg, f2⟩; have F2 := Lib.hid (f1.trans f2); have LE := Lib.hid le2; clear le2)
      | (go_at_call 8; refine (cP.out _ F2.out g cap LE.out).mono ?_; rintro e w3 ⟨v3, Ls, E, rfl, ka, hr3, f3⟩; have F3 := Lib.hid (F2.out.trans f3); have LE3 := Lib.hid (LE.out.kept f3 (by simp)); have KA := Lib.hid ka; have R3 := Lib.hid hr3; clear ka hr3)
      | (go_at_call 9; refine (cR.out _ F3.out).mono ?_; rintro e w4 ⟨v4, Ms, E', rfl, kb, hr4, f4⟩; obtain ⟨rfl, rfl⟩ := kidsAre_one KA.out kb; have F4 := Lib.hid (F3.out.trans f4); have LE4 := Lib.hid (LE3.out.kept f4 (by simp)); have R4 := Lib.hid hr4; have R34 := Lib.hid (R3.out.kept f4); clear kb hr4)
      | (go_at_call 10; refine (pieces_any _ v3 v4 Ls R34.out R4.out (kidsAre_small KA.out).1 (kidsAre_small KA.out).2).mono ?_; rintro e w5 ⟨rfl, f5⟩; have F5 := Lib.hid (F4.out.trans f5); have LE5 := Lib.hid (LE4.out.kept f5 (by simp)))
      | (go_at_call 11; refine (cK.out _ F5.out g cap LE5.out).mono ?_; rintro e w7 ⟨rfl, f7⟩; have F7 := Lib.hid (F5.out.trans f7)))
    go_ret
    exact ⟨rfl, F7.out⟩
  · clear hn
    go_enter Tryd.func3, Tryd.ntmps3
    go_wp2_with (first
      | (go_at_call 6; refine (cA.out).mono ?_; rintro e w1 ⟨rfl, f1⟩)
      | (go_at_call 7; refine (cL.out _ f1).mono ?_; rintro e w2 ⟨g, cap, rfl, le2, hg, f2⟩; have F2 := Lib.hid (f1.trans f2); have LE := Lib.hid le2; clear le2)
      | (go_at_call 8; refine (cP.out _ F2.out g cap LE.out).mono ?_; rintro e w3 ⟨v3, Ls, E, rfl, ka, hr3, f3⟩; have F3 := Lib.hid (F2.out.trans f3); have LE3 := Lib.hid (LE.out.kept f3 (by simp)); have KA := Lib.hid ka; have R3 := Lib.hid hr3; clear ka hr3)
      | (go_at_call 9; refine (cR.out _ F3.out).mono ?_; rintro e w4 ⟨v4, Ms, E', rfl, kb, hr4, f4⟩; obtain ⟨rfl, rfl⟩ := kidsAre_one KA.out kb; have F4 := Lib.hid (F3.out.trans f4); have LE4 := Lib.hid (LE3.out.kept f4 (by simp)); have R4 := Lib.hid hr4; have R34 := Lib.hid (R3.out.kept f4); clear kb hr4)
      | (go_at_call 10; refine (pieces_any _ v3 v4 Ls R34.out R4.out (kidsAre_small KA.out).1 (kidsAre_small KA.out).2).mono ?_; rintro e w5 ⟨rfl, f5⟩; have F5 := Lib.hid (F4.out.trans f5); have LE5 := Lib.hid (LE4.out.kept f5 (by simp)))
      | (go_at_call 11; refine (cK.out _ F5.out g cap LE5.out).mono ?_; rintro e w7 ⟨rfl, f7⟩; have F7 := Lib.hid (F5.out.trans f7)))
    go_ret
    exact ⟨rfl, F7.out⟩
set_option maxHeartbeats 4000000 in
set_option maxRecDepth 100000 in
theorem kids_long (w : World) (hL : Laid w) (ad : Option Addr) (m c : Nat) (n : Int) (h : 1000 < m ∨ (m ≤ 1000 ∧ 300 < n ∧ n ≤ 16384)) :
    Calls Tryd.prog 3 #[.slice ad m c, .int .i64 n] w fun e w' => e = .returned (.bool true) ∧ Fr [] w w' := by
  have cA := Lib.hid (awake_any w hL)
  clear hL
  rcases h with h | ⟨h, h1, h2⟩
  · have hm' : (1000 : Int) < (m : Int) := by omega
    go_enter Tryd.func3, Tryd.ntmps3
    go_wp2_with (go_at_call 6; refine (cA.out).mono ?_; rintro e w1 ⟨rfl, f1⟩)
    go_ret
    exact ⟨rfl, f1⟩
  · have hm' : ¬ (1000 : Int) < (m : Int) := by omega
    go_enter Tryd.func3, Tryd.ntmps3
    go_wp2_with (go_at_call 6; refine (cA.out).mono ?_; rintro e w1 ⟨rfl, f1⟩)
    go_ret
    exact ⟨rfl, f1⟩
theorem kids_all (w : World) (hL : Laid w) (ad : Option Addr) (m c : Nat) (l : List UInt8) (hl : l.length = m) (hb : BytesAt w ad l) (hc : ad = none → c = 0) (n : Int) :
    Calls Tryd.prog 3 #[.slice ad m c, .int .i64 n] w fun e w' => e = .returned (.bool true) ∧ Fr [] w w' := by
  by_cases hm : m ≤ 1000
  · by_cases hn : 300 < n ∧ n ≤ 16384
    · exact kids_long w hL ad m c n (Or.inr ⟨hm, hn⟩)
    · exact kids_law w hL ad m c l hl hb hc hm n hn
  · exact kids_long w hL ad m c n (Or.inl (by omega))
end Go.Proofs.YtddcilmeignlmaaDoor

